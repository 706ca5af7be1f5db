package norm_test

import (
	"slices"
	"strconv"
	"strings"
	"sync"

	"shuttle/class"
)

// The model is the chapter's sections Words and Promises, sentence by sentence, and shares nothing with the package. Of the program it asks class alone.

// letters is the chapter's table.
const letters = `0300: A À, E È, I Ì, O Ò, U Ù, a à, e è, i ì, o ò, u ù, Â Ầ, Ê Ề, Ô Ồ, â ầ, ê ề, ô ồ
0301: A Á, C Ć, E É, I Í, L Ĺ, N Ń, O Ó, R Ŕ, S Ś, U Ú, Y Ý, Z Ź, a á, c ć, e é, i í, l ĺ, n ń, o ó, r ŕ, s ś, u ú, y ý, z ź, Â Ấ, Ê Ế, Ô Ố, â ấ, ê ế, ô ố, Α Ά, Ε Έ, Η Ή, Ι Ί, Ο Ό, Υ Ύ, Ω Ώ, α ά, ε έ, η ή, ι ί, ο ό, υ ύ, ω ώ, ϊ ΐ, ϋ ΰ, Г Ѓ, К Ќ, г ѓ, к ќ
0302: A Â, C Ĉ, E Ê, G Ĝ, H Ĥ, I Î, J Ĵ, O Ô, S Ŝ, U Û, W Ŵ, Y Ŷ, a â, c ĉ, e ê, g ĝ, h ĥ, i î, j ĵ, o ô, s ŝ, u û, w ŵ, y ŷ
0303: A Ã, I Ĩ, N Ñ, O Õ, U Ũ, a ã, i ĩ, n ñ, o õ, u ũ
0304: A Ā, E Ē, I Ī, O Ō, U Ū, a ā, e ē, i ī, o ō, u ū
0306: A Ă, E Ĕ, G Ğ, I Ĭ, O Ŏ, U Ŭ, a ă, e ĕ, g ğ, i ĭ, o ŏ, u ŭ, И Й, и й, У Ў, у ў
0307: C Ċ, E Ė, G Ġ, I İ, Z Ż, c ċ, e ė, g ġ, z ż
0308: A Ä, E Ë, I Ï, O Ö, U Ü, Y Ÿ, a ä, e ë, i ï, o ö, u ü, y ÿ, Ι Ϊ, Υ Ϋ, ι ϊ, υ ϋ, Е Ё, І Ї, е ё, і ї
030A: A Å, U Ů, a å, u ů
030B: O Ő, U Ű, o ő, u ű
030C: C Č, D Ď, E Ě, L Ľ, N Ň, R Ř, S Š, T Ť, Z Ž, c č, d ď, e ě, l ľ, n ň, r ř, s š, t ť, z ž
0327: C Ç, G Ģ, K Ķ, L Ļ, N Ņ, R Ŗ, S Ş, T Ţ, c ç, g ģ, k ķ, l ļ, n ņ, r ŗ, s ş, t ţ
0328: A Ą, E Ę, I Į, U Ų, a ą, e ę, i į, u ų`

var (
	voiced     = []rune{0x304B, 0x304D, 0x304F, 0x3051, 0x3053, 0x3055, 0x3057, 0x3059, 0x305B, 0x305D, 0x305F, 0x3061, 0x3064, 0x3066, 0x3068, 0x306F, 0x3072, 0x3075, 0x3078, 0x307B}
	halfVoiced = []rune{0x306F, 0x3072, 0x3075, 0x3078, 0x307B}
	singles    = map[rune]rune{0x212A: 'K', 0x2126: 0x03A9, 0x212B: 0x00C5}
)

// modelPairs tells, of each character that is a pair, the two.
var modelPairs = sync.OnceValue(func() map[rune][2]rune {
	pairs := map[rune][2]rune{}
	for _, row := range strings.Split(letters, "\n") {
		number, list, _ := strings.Cut(row, ": ")
		mark, _ := strconv.ParseInt(number, 16, 32)
		for _, two := range strings.Split(list, ", ") {
			l := []rune(two)
			pairs[l[2]] = [2]rune{l[0], rune(mark)}
		}
	}
	for _, more := range []rune{0, 0x60} {
		for _, r := range voiced {
			pairs[r+more+1] = [2]rune{r + more, 0x3099}
		}
		for _, r := range halfVoiced {
			pairs[r+more+2] = [2]rune{r + more, 0x309A}
		}
	}
	for i := range rune(19) {
		for j := range rune(21) {
			for k := range rune(28) {
				s := 0xAC00 + (21*i+j)*28 + k
				pairs[s] = [2]rune{s - k, 0x11A7 + k}
				if k == 0 {
					pairs[s] = [2]rune{0x1100 + i, 0x1161 + j}
				}
			}
		}
	}
	return pairs
})

// modelTogether tells what two are together.
var modelTogether = sync.OnceValue(func() map[[2]rune]rune {
	together := map[[2]rune]rune{}
	for r, two := range modelPairs() {
		together[two] = r
	}
	return together
})

func splitOf(r rune) []rune {
	if is, ok := singles[r]; ok {
		return splitOf(is)
	}
	if two, ok := modelPairs()[r]; ok {
		return append(splitOf(two[0]), splitOf(two[1])...)
	}
	return []rune{r}
}

func pairOf(a, b rune) rune { return modelTogether()[[2]rune{a, b}] }

// sign is a character, or a bad byte.
type sign struct {
	text string
	r    rune
	bad  bool
}

func signOf(r rune) sign { return sign{text: string([]rune{r}), r: r} }

func (x sign) number() uint8 {
	if x.bad {
		return 0
	}
	return class.Mark(x.r)
}

// signs goes through s by the language's own range, which tells a bad byte by FFFD and one byte.
func signs(s string) []sign {
	var l []sign
	for at, r := range s {
		x := signOf(r)
		if !strings.HasPrefix(s[at:], x.text) {
			x = sign{text: s[at : at+1], r: r, bad: true}
		}
		l = append(l, x)
	}
	return l
}

func textOf(l []sign) string {
	s := ""
	for _, x := range l {
		s += x.text
	}
	return s
}

// order has two neighbours change places as long as there are two that stand in the wrong order.
func order(l []sign) {
	for changed := true; changed; {
		changed = false
		for i := 1; i < len(l); i++ {
			if a, b := l[i-1].number(), l[i].number(); b != 0 && a > b {
				l[i-1], l[i] = l[i], l[i-1]
				changed = true
			}
		}
	}
}

func apartOf(s string) []sign {
	var l []sign
	for _, x := range signs(s) {
		if x.bad {
			l = append(l, x)
			continue
		}
		for _, r := range splitOf(x.r) {
			l = append(l, signOf(r))
		}
	}
	order(l)
	return l
}

func togetherOf(s string) []sign {
	l := apartOf(s)
	for at := 1; at < len(l); {
		if starter := at - 1 - behindStarter(l[:at]); starter >= 0 && isOpenBetween(l, starter, at) {
			if both := pairOf(l[starter].r, l[at].r); both != 0 && !l[starter].bad && !l[at].bad {
				l[starter] = signOf(both)
				l = slices.Delete(l, at, at+1)
				continue
			}
		}
		at++
	}
	return l
}

// behindStarter tells how many stand behind the last starter of l.
func behindStarter(l []sign) int {
	n := 0
	for n < len(l) && l[len(l)-1-n].number() != 0 {
		n++
	}
	return n
}

// isOpenBetween tells whether the sign at may be held against the starter.
func isOpenBetween(l []sign, starter, at int) bool {
	ahead := l[at-1].number()
	return starter == at-1 || ahead < l[at].number() && ahead != 0
}
