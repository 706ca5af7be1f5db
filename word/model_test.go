package word_test

import (
	"slices"
	"strings"
	"unicode/utf8"

	"shuttle/api"
	"shuttle/class"
	"shuttle/cluster"
)

// The model is the chapter's section Words, sentence by sentence: all clusters are laid into a list, and each question is asked of their numbers in it. Of the program it asks class and cluster alone.

// laid is the clusters of s.
func laid(s string) []string {
	var l []string
	for _, c := range cluster.All(s) {
		l = append(l, c)
	}
	return l
}

// firstOf is the first character of c, and whether it is one: the language's own range tells a bad byte by FFFD, which has other bytes.
func firstOf(c string) (rune, bool) {
	x, _ := utf8.DecodeRuneInString(c)
	return x, strings.HasPrefix(c, string([]rune{x}))
}

func isLetter(c string) bool {
	x, ok := firstOf(c)
	kind := class.Kind(x)
	return ok && (kind == api.KLetter && class.Break(x) != api.BreakIdeo || kind == api.KMark || x == 0x5F)
}

func isDigit(c string) bool {
	x, ok := firstOf(c)
	return ok && class.Kind(x) == api.KDigit
}

func isAlone(c string) bool {
	x, ok := firstOf(c)
	return ok && class.Kind(x) == api.KLetter && class.Break(x) == api.BreakIdeo
}

func isBlank(c string) bool {
	x, ok := firstOf(c)
	return ok && (class.Kind(x) == api.KSpace && class.Break(x) != api.BreakMust || x == 0x09)
}

// standsAmong tells whether the cluster of that number may stand among letters and digits.
func standsAmong(l []string, at int) bool {
	if isLetter(l[at]) || isDigit(l[at]) {
		return true
	}
	if at == 0 || at == len(l)-1 {
		return false
	}
	ahead, behind := l[at-1], l[at+1]
	switch l[at] {
	case "\x27", "\xE2\x80\x99", "\xC2\xB7", "\x3A":
		return isLetter(ahead) && isLetter(behind)
	case "\x2E", "\x2C":
		return isDigit(ahead) && isDigit(behind)
	}
	return false
}

// endOf tells the number of the cluster behind the segment that begins with the one of that number.
func endOf(l []string, at int) int {
	end := at + 1
	switch {
	case isLetter(l[at]) || isDigit(l[at]):
		for end < len(l) && standsAmong(l, end) {
			end++
		}
	case isBlank(l[at]):
		for end < len(l) && isBlank(l[end]) {
			end++
		}
	}
	return end
}

// segments parts s.
func segments(s string) []string {
	l := laid(s)
	var parts []string
	for at := 0; at < len(l); {
		end := endOf(l, at)
		parts = append(parts, strings.Join(l[at:end], ""))
		at = end
	}
	return parts
}

// isWord tells whether the segment is one of letters and digits, or a sign alone.
func isWord(part string) bool { return isLetter(part) || isDigit(part) || isAlone(part) }

// beginnings are the places at which words begin.
func beginnings(parts []string) []int {
	var places []int
	at := 0
	for _, part := range parts {
		if isWord(part) {
			places = append(places, at)
		}
		at += len(part)
	}
	return places
}

// above is the least of the places that is above at; below the greatest that is below it.
func above(places []int, at, otherwise int) int {
	for _, place := range places {
		if place > at {
			return place
		}
	}
	return otherwise
}

func below(places []int, at int) int {
	for _, place := range slices.Backward(places) {
		if place < at {
			return place
		}
	}
	return 0
}
