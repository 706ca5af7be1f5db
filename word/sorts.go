package word

import (
	"shuttle/class"
	"shuttle/cluster"
	"shuttle/scan"
)

// The map of the layers has this one call scan, class and cluster alone, so that these numbers of package api stand here once more; a test holds them against those.
const (
	kindMark   = 2
	kindLetter = 3
	kindDigit  = 4
	kindSpace  = 5
	breakMust  = 2
	breakIdeo  = 7
)

// sort is what a cluster is to words.
type sort uint8

const (
	none sort = iota
	letter
	digit
	alone // a sign that is a word by itself
	blank
	another
)

// sortOf tells the sort of the cluster with which s begins, by its first character; another, of the empty text.
func sortOf(s string) sort {
	// A bad byte is asked for as FFFD, as the empty text is: a symbol.
	x, _ := scan.Next(s)
	switch class.Kind(x) {
	case kindMark:
		return letter
	case kindDigit:
		return digit
	case kindLetter:
		if class.Break(x) == breakIdeo {
			return alone
		}
		return letter
	case kindSpace:
		if class.Break(x) != breakMust {
			return blank
		}
	}
	switch x {
	case '_':
		return letter
	case '\t':
		return blank
	}
	return another
}

// joinedBy tells of what sort both sides of the cluster c have to be, so that c joins them; none, if it joins nothing.
func joinedBy(c string) sort {
	switch c {
	case "'", "\u2019", "\u00B7", ":":
		return letter
	case ".", ",":
		return digit
	}
	return none
}

// sortIn tells the sort of the cluster that stands in s from one place to the other. A sign that joins its sides counts as of their sort.
func sortIn(s string, from, to int) sort {
	joined := joinedBy(s[from:to])
	if joined == none {
		return sortOf(s[from:to])
	}
	ahead := s[from-cluster.Last(s[:from]) : from]
	if sortOf(ahead) == joined && sortOf(s[to:]) == joined {
		return joined
	}
	return another
}

// together tells whether no segment ends between two clusters of these sorts.
func together(ahead, behind sort) bool {
	switch ahead {
	case letter, digit:
		return behind == letter || behind == digit
	case blank:
		return behind == blank
	}
	return false
}

// isWord tells whether the segment part is a word.
func isWord(part string) bool {
	switch sortOf(part) {
	case letter, digit, alone:
		return true
	}
	return false
}
