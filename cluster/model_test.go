package cluster_test

import (
	"strings"

	"shuttle/api"
	"shuttle/class"
)

// The model is the chapter's section Words, sentence by sentence: every question is asked of every two characters, and nothing is kept from one to the next. Of the program it asks class alone.

// sign is a character, or a bad byte.
type sign struct {
	text string
	r    rune
	bad  bool
}

// signs goes through s by the language's own range, which tells a bad byte by FFFD and one byte.
func signs(s string) []sign {
	var l []sign
	for at, r := range s {
		x := sign{text: string([]rune{r}), r: r}
		if !strings.HasPrefix(s[at:], x.text) {
			x = sign{text: s[at : at+1], r: r, bad: true}
		}
		l = append(l, x)
	}
	return l
}

func among(r, from, to rune) bool { return from <= r && r <= to }

func isPicture(r rune) bool { return class.Kind(r) == api.KSymbol && class.Wide(r, false) == 2 }

func isRegional(r rune) bool { return among(r, 0x1F1E6, 0x1F1FF) }

func isL(r rune) bool   { return among(r, 0x1100, 0x115F) }
func isV(r rune) bool   { return among(r, 0x1160, 0x11A7) }
func isT(r rune) bool   { return among(r, 0x11A8, 0x11FF) }
func isLV(r rune) bool  { return among(r, 0xAC00, 0xD7A3) && (r-0xAC00)%28 == 0 }
func isLVT(r rune) bool { return among(r, 0xAC00, 0xD7A3) && !isLV(r) }

func standsAlone(x sign) bool {
	kind := class.Kind(x.r)
	switch {
	case x.bad, kind == api.KControl, x.r == 0x2028, x.r == 0x2029:
		return true
	case x.r == 0x200C, x.r == 0x200D:
		return false
	}
	return kind == api.KFormat
}

func isSyllable(z, y rune) bool {
	return isL(z) && (isL(y) || isV(y) || isLV(y) || isLVT(y)) ||
		(isV(z) || isLV(z)) && (isV(y) || isT(y)) ||
		(isT(z) || isLVT(z)) && isT(y)
}

// goesOn tells whether y stands with what is taken, which has room.
func goesOn(taken []sign, y sign) bool {
	x, z := taken[0].r, taken[len(taken)-1].r
	switch {
	case y.bad:
		return false
	case class.Kind(y.r) == api.KMark, y.r == 0x200C, y.r == 0x200D:
		return true
	case isRegional(y.r):
		return len(taken) == 1 && isRegional(x)
	case isPicture(y.r):
		return z == 0x200D && isPicture(x)
	}
	return isSyllable(z, y.r)
}

// first tells how many of l, which is not empty, the first cluster has.
func first(l []sign) int {
	if standsAlone(l[0]) {
		if l[0].r == 0x0D && len(l) > 1 && l[1].r == 0x0A {
			return 2
		}
		return 1
	}
	n := 1
	for n < len(l) && n < 32 && goesOn(l[:n], l[n]) {
		n++
	}
	return n
}

// clusters parts s.
func clusters(s string) []string {
	var parts []string
	for l := signs(s); len(l) > 0; {
		n := first(l)
		part := ""
		for _, x := range l[:n] {
			part += x.text
		}
		parts = append(parts, part)
		l = l[n:]
	}
	return parts
}
