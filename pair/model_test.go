package pair_test

import (
	"slices"

	"shuttle/api"
	"shuttle/class"
)

// The model is the chapter's sentences: of each place it is asked anew what stands around it. Of the package it asks nothing.

// counts is the kind as it counts; DirON for all that are neutral.
func counts(kind int8) int8 {
	switch {
	case slices.Contains([]int8{api.DirL, api.DirR, api.DirEN, api.DirAN}, kind):
		return kind
	case kind == api.DirAL:
		return api.DirR
	}
	return api.DirON
}

func isNeutral(kind int8) bool { return counts(kind) == api.DirON }

func directionOf(kind int8) int8 {
	return map[int8]int8{api.DirL: api.DirL, api.DirR: api.DirR, api.DirEN: api.DirR, api.DirAN: api.DirR}[counts(kind)]
}

func directionOfLevel(level uint8) int8 { return []int8{api.DirL, api.DirR}[level&1] }

func countsAsSide(s int8) int8 { return map[bool]int8{true: api.DirR, false: api.DirL}[s == api.DirR] }

// isBracket tells whether the character counts.
func isBracket(r rune, kind int8) bool {
	_, _, ok := class.Pair(r)
	return ok && kind == api.DirON
}

func bracketsOf(runes []rune, kinds []int8) [][2]int {
	var pairs [][2]int
	var open []int
	for at := 0; at < len(runes) && at < len(kinds); at++ {
		if !isBracket(runes[at], kinds[at]) {
			continue
		}
		other, opens, _ := class.Pair(runes[at])
		if opens && len(open) == 63 {
			break
		}
		if opens {
			open = append(open, at)
			continue
		}
		for n := len(open); n > 0; n-- {
			if runes[open[n-1]] == other {
				pairs = append(pairs, [2]int{open[n-1], at})
				open = open[:n-1]
				break
			}
		}
	}
	slices.SortFunc(pairs, func(a, b [2]int) int { return a[0] - b[0] })
	return pairs
}

// stands tells whether one of the kinds has the direction.
func stands(kinds []int8, direction int8) bool {
	return slices.ContainsFunc(kinds, func(kind int8) bool { return !isNeutral(kind) && directionOf(kind) == direction })
}

// directionAhead is that of the last one of the kinds that is not neutral; sos, if all are.
func directionAhead(kinds []int8, sos int8) int8 {
	for at := len(kinds) - 1; at >= 0; at-- {
		if !isNeutral(kinds[at]) {
			return directionOf(kinds[at])
		}
	}
	return sos
}

func resolvedOf(runes []rune, kinds []int8, level uint8, sos, eos int8) []int8 {
	e, other := directionOfLevel(level), directionOfLevel(level+1)
	sos, eos = countsAsSide(sos), countsAsSide(eos)
	var made []int8
	for at := 0; at < len(runes) && at < len(kinds); at++ {
		made = append(made, counts(kinds[at]))
	}
	for _, p := range bracketsOf(runes, kinds) {
		between, to := made[p[0]+1:p[1]], e
		switch {
		case stands(between, e):
		case stands(between, other):
			if a := directionAhead(made[:p[0]], sos); a == other {
				to = other
			}
		default:
			continue
		}
		for _, at := range p {
			made[at] = to
			for at++; at < len(made) && class.Dir(runes[at]) == api.DirNSM && isNeutral(made[at]); at++ {
				made[at] = to
			}
		}
	}
	return endsOf(made, e, sos, eos)
}

// endsOf is what the rules 2 and 3 make of the kinds: for each neutral one its own stretch is sought.
func endsOf(kinds []int8, e, sos, eos int8) []int8 {
	made := slices.Clone(kinds)
	for at := range kinds {
		if !isNeutral(kinds[at]) {
			continue
		}
		to := at
		for to < len(kinds) && isNeutral(kinds[to]) {
			to++
		}
		behind := eos
		if to < len(kinds) {
			behind = directionOf(kinds[to])
		}
		made[at] = e
		if directionAhead(kinds[:at], sos) == behind {
			made[at] = behind
		}
	}
	return made
}
