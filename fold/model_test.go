package fold_test

import (
	"strconv"
	"strings"
	"sync"

	"shuttle/api"
	"shuttle/class"
	"shuttle/norm"
)

// The model is the chapter's sections Words and Promises, sentence by sentence, and shares nothing with the package. Of the program it asks class and norm alone.

// sideBySide is the chapter's list of great letters, each with its small ones: the n-th of the first with the n-th of the second.
const sideBySide = `41-5A 61-7A; C0-D6 E0-F6; D8-DE F8-FE; 391-3A1 3B1-3C1; 3A3-3AB 3C3-3CB; 410-42F 430-44F; 531-556 561-586; FF21-FF3A FF41-FF5A; ` +
	`400-40F 450-45F; 178 FF; 386 3AC; 388-38A 3AD-3AF; 38C 3CC; 38E-38F 3CD-3CE; 4C0 4CF`

// inTurns is the chapter's stretches of great letters, each with its small one right behind it.
const inTurns = `100-12E 132-136 14A-176 460-480 48A-4BE 4D0-52E 139-147 179 17B 17D 4C1-4CD`

// fromTo tells the ends of what is written as from-to, or as one number.
func fromTo(written string) (from, to rune) {
	first, last, ok := strings.Cut(written, "-")
	if !ok {
		last = first
	}
	a, _ := strconv.ParseInt(first, 16, 32)
	b, _ := strconv.ParseInt(last, 16, 32)
	return rune(a), rune(b)
}

// modelPairs tells the small one of each great letter.
var modelPairs = sync.OnceValue(func() map[rune]rune {
	pairs := map[rune]rune{}
	for _, both := range strings.Split(sideBySide, "; ") {
		greats, smalls, _ := strings.Cut(both, " ")
		from, to := fromTo(greats)
		small, _ := fromTo(smalls)
		for r := from; r <= to; r++ {
			pairs[r] = small + r - from
		}
	}
	for _, stretch := range strings.Fields(inTurns) {
		from, to := fromTo(stretch)
		for r := from; r <= to; r += 2 {
			pairs[r] = r + 1
		}
	}
	return pairs
})

// modelGreats tells the great one of each small letter, and of 3C2.
var modelGreats = sync.OnceValue(func() map[rune]rune {
	greats := map[rune]rune{0x3C2: 0x3A3}
	for great, small := range modelPairs() {
		greats[small] = great
	}
	return greats
})

func smallOf(r rune) rune {
	if small, ok := modelPairs()[r]; ok {
		return small
	}
	return r
}

func greatOf(r rune) rune {
	if great, ok := modelGreats()[r]; ok {
		return great
	}
	return r
}

// sign is a character, or a bad byte.
type sign struct {
	text string
	r    rune
	bad  bool
}

// is tells whether the sign is a character of that kind.
func (x sign) is(kind int8) bool { return !x.bad && class.Kind(x.r) == kind }

// signs goes through s by the language's own range, which tells a bad byte by FFFD and one byte.
func signs(s string) []sign {
	var l []sign
	for at, r := range s {
		x := sign{text: string([]rune{r}), r: r}
		if !strings.HasPrefix(s[at:], x.text) {
			x = sign{text: s[at : at+1], r: r, bad: true}
		}
		l = append(l, x)
	}
	return l
}

// madeOf is the signs of s, one behind the other, each character as f makes it.
func madeOf(s string, f func(l []sign, i int) string) string {
	made := ""
	l := signs(s)
	for i, x := range l {
		if x.bad {
			made += x.text
		} else {
			made += f(l, i)
		}
	}
	return made
}

func lowerAt(l []sign, i int) string {
	if l[i].r != 0x3A3 {
		return string(smallOf(l[i].r))
	}
	ahead := i - 1
	for ahead >= 0 && l[ahead].is(api.KMark) {
		ahead--
	}
	behind := i + 1
	for behind < len(l) && l[behind].is(api.KMark) {
		behind++
	}
	if ahead >= 0 && l[ahead].is(api.KLetter) && !(behind < len(l) && l[behind].is(api.KLetter)) {
		return "\u03C2"
	}
	return "\u03C3"
}

func titleAt(l []sign, i int) string {
	if !l[i].is(api.KLetter) || i > 0 && (l[i-1].is(api.KLetter) || l[i-1].is(api.KDigit) || l[i-1].is(api.KMark)) {
		return lowerAt(l, i)
	}
	if l[i].r == 0xDF {
		return "\x53\x73"
	}
	return string(greatOf(l[i].r))
}

func upperAt(l []sign, i int) string {
	if l[i].r == 0xDF {
		return "\x53\x53"
	}
	return string(greatOf(l[i].r))
}

func swapAt(l []sign, i int) string {
	switch r := l[i].r; {
	case greatOf(r) != r:
		return string(greatOf(r))
	case r == 0xDF:
		return "\x53\x53"
	default:
		return string(smallOf(r))
	}
}

func foldAt(l []sign, i int) string {
	switch l[i].r {
	case 0xDF:
		return "\x73\x73"
	case 0x3C2:
		return "\u03C3"
	}
	return string(smallOf(l[i].r))
}

func foldOf(s string) string { return norm.Apart(madeOf(norm.Apart(s), foldAt)) }
