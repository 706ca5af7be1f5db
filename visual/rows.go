package visual

import (
	"shuttle/api"
	"shuttle/class"
)

// counted is a new list of the levels as they count.
func counted(levels []uint8) []uint8 {
	list := make([]uint8, len(levels))
	for at, level := range levels {
		list[at] = min(level, greatest)
	}
	return list
}

// toBase gives base to each S and B of a row, and to what goes with them or with the row's end.
func toBase(row []uint8, l []rune, base uint8) {
	ends := true
	for at := len(row) - 1; at >= 0; at-- {
		dir := class.Dir(l[at])
		ends = dir == api.DirS || dir == api.DirB || ends && goesWithEnd(dir)
		if ends {
			row[at] = base
		}
	}
}

// goesWithEnd tells whether what has the class dir has the level of the end that stands right behind it.
func goesWithEnd(dir int8) bool {
	switch dir {
	case api.DirWS, api.DirLRI, api.DirRLI, api.DirFSI, api.DirPDI:
		return true
	}
	return isLeftOut(dir)
}

// turnStretches turns each stretch of places round whose levels are at least that one. What was turned up to then was turned within such a stretch, so that its places are still the levels' own ones.
func turnStretches(order []int, levels []uint8, least uint8) {
seek:
	for from := 0; ; from++ {
		for to := from; ; to++ {
			switch {
			case to == len(levels):
				turn(order[from:])
				break seek
			case levels[to] < least:
				turn(order[from:to])
				from = to
				continue seek
			}
		}
	}
}

// turn turns the list round.
func turn[T any](list []T) {
	for a, b := 0, len(list)-1; a < b; a, b = a+1, b-1 {
		list[a], list[b] = list[b], list[a]
	}
}
