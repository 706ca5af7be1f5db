package pair

import (
	"shuttle/api"
	"shuttle/class"
)

// settleBrackets is rule 1: brackets have the direction of what stands between them.
func settleBrackets(kinds []int8, runes []rune, pairs [][2]int, around sides) {
	counts := countsAhead(kinds)
	ahead, at := around.sos, 0
	for _, p := range pairs {
		// Pairs come by the places of the ones that open: all that stands ahead of this one is settled.
		for ; at < p[0]; at++ {
			if kinds[at] != neutral {
				ahead = direction(kinds[at])
			}
		}
		// What the pairs ahead of this one have changed does not lie between its two: their counts still hold.
		first, last := counts[p[0]+1], counts[p[1]]
		switch {
		case first == last:
			continue
		case first[around.level] != last[around.level]:
			settlePair(kinds, runes, p, around.level)
		default:
			// Be it the direction of the level or the other one, what stands ahead is what they become.
			settlePair(kinds, runes, p, ahead)
		}
	}
}

// countsAhead tells for each place how many kinds ahead of it are of the directions DirL and DirR.
func countsAhead(kinds []int8) [][2]int {
	counts := make([][2]int, len(kinds)+1)
	for at, kind := range kinds {
		counts[at+1] = counts[at]
		if kind != neutral {
			counts[at+1][direction(kind)]++
		}
	}
	return counts
}

// settlePair gives the two brackets of p, and the marks on them, a direction.
func settlePair(kinds []int8, runes []rune, p [2]int, to int8) {
	for _, at := range p {
		kinds[at] = to
		for at++; at < len(kinds) && kinds[at] == neutral && class.Dir(runes[at]) == api.DirNSM; at++ {
			kinds[at] = to
		}
	}
}

// settleStretches is the rules 2 and 3: what is still neutral has the direction of both its sides, if that is one, else the level's.
func settleStretches(kinds []int8, around sides) {
	ahead := around.sos
seek:
	for from := 0; from < len(kinds); from++ {
		if kinds[from] != neutral {
			ahead = direction(kinds[from])
			continue
		}
		for to := from; to < len(kinds); to++ {
			if kinds[to] != neutral {
				settleStretch(kinds[from:to:to], ahead, direction(kinds[to]), around.level)
				from = to - 1
				continue seek
			}
		}
		settleStretch(kinds[from:], ahead, around.eos, around.level)
		return
	}
}

// settleStretch gives a stretch of neutral kinds a direction.
func settleStretch(stretch []int8, ahead, behind, level int8) {
	to := level
	if ahead == behind {
		to = ahead
	}
	for at := range stretch {
		stretch[at] = to
	}
}
