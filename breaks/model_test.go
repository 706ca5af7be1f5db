package breaks_test

import (
	"strconv"
	"strings"
	"unicode/utf8"

	"shuttle/api"
	"shuttle/class"
	"shuttle/cluster"
)

// The model is the chapter's sentences, one by one: all clusters are laid into a list, and the rules are asked of their numbers in it. Of the program it asks class and cluster alone.

// laid is the clusters of s.
func laid(s string) []string {
	var l []string
	for _, c := range cluster.All(s) {
		l = append(l, c)
	}
	return l
}

// classOf is the class of the cluster c.
func classOf(c string) int8 {
	x, _ := utf8.DecodeRuneInString(c)
	// The language's own decoding tells a bad byte by FFFD, which has other bytes.
	bad := !strings.HasPrefix(c, string([]rune{x}))
	if bad || class.Kind(x) == api.KMark {
		return api.BreakAlpha
	}
	return class.Break(x)
}

// classes are those of the clusters of l.
func classes(l []string) []int8 {
	var of []int8
	for _, c := range l {
		of = append(of, classOf(c))
	}
	return of
}

// said is what the chapter's rules say between a and b.
func said(a, b, p int8) int8 {
	spaced := a == api.BreakSpace
	switch {
	case a == api.BreakMust: // 1
		return api.Must
	case b == api.BreakMust, b == api.BreakSpace, b == api.BreakZero: // 2
		return api.MayNot
	case p == api.BreakZero: // 3
		return api.May
	case a == api.BreakJoin, b == api.BreakJoin, a == api.BreakGlue: // 4
		return api.MayNot
	case b == api.BreakGlue && a != api.BreakSpace && a != api.BreakHyphen: // 4
		return api.MayNot
	case b == api.BreakClose, b == api.BreakInfix && !spaced, p == api.BreakOpen: // 5
		return api.MayNot
	case spaced: // 6
		return api.May
	case b == api.BreakHyphen: // 7
		return api.MayNot
	case a == api.BreakHyphen && b == api.BreakDigit: // 8
		return api.MayNot
	case a == api.BreakHyphen: // 8
		return api.May
	case a == api.BreakIdeo, b == api.BreakIdeo: // 9
		return api.May
	}
	return api.MayNot // 10
}

// where is what may be done behind each cluster of s.
func where(s string) []int8 {
	of := classes(laid(s))
	var all []int8
	solid := int8(-1)
	for at, a := range of {
		if a != api.BreakSpace {
			solid = a
		}
		switch {
		case at+1 < len(of):
			all = append(all, said(a, of[at+1], solid))
		case a == api.BreakMust:
			all = append(all, api.Must)
		default:
			all = append(all, api.MayNot)
		}
	}
	return all
}

// line is a line and its place.
type line struct {
	at   int
	text string
}

// lines are those of s: first the text is parted behind each Must, then what is too long.
func lines(s string) []line {
	var all []line
	from, end := 0, 0
	w := where(s)
	for i, c := range laid(s) {
		end += len(c)
		if w[i] == api.Must {
			all = append(all, parted(s[:end], from)...)
			from = end
		}
	}
	return append(all, parted(s, from)...)
}

// parted are the lines of what of s stands behind from, and has a Must nowhere but at its end.
func parted(s string, from int) []line {
	var all []line
	for len(s)-from > api.MaxLine {
		end := from + api.MaxLine
		for !cluster.Is(s, end) {
			end--
		}
		all = append(all, line{from, s[from:end]})
		from = end
	}
	return append(all, line{from, s[from:]})
}

// brief shows lines, of long ones their ends and how long they are.
func brief(l ...line) string {
	var b strings.Builder
	for i, x := range l {
		if i == 10 {
			return b.String() + " and more"
		}
		b.WriteString(" " + strconv.Itoa(x.at) + " ")
		if len(x.text) <= 60 {
			b.WriteString(strconv.QuoteToASCII(x.text))
			continue
		}
		b.WriteString(strconv.QuoteToASCII(x.text[:20]) + ".." + strconv.Itoa(len(x.text)) + ".." + strconv.QuoteToASCII(x.text[len(x.text)-20:]))
	}
	return b.String()
}
