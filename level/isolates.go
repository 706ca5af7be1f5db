package level

import "shuttle/api"

// classOf is the class as which dir counts.
func classOf(dir int8) int8 {
	if dir < api.DirL || dir > api.DirPDI {
		return api.DirON
	}
	return dir
}

// direction is that of a level.
func direction(level uint8) int8 {
	if level%2 == 0 {
		return api.DirL
	}
	return api.DirR
}

func isRight(dir int8) bool {
	return dir == api.DirR || dir == api.DirAL
}

func isStrong(dir int8) bool {
	return dir == api.DirL || isRight(dir)
}

func beginsIsolate(dir int8) bool {
	return dir == api.DirLRI || dir == api.DirRLI || dir == api.DirFSI
}

// isLeftOut tells whether a place of the class dir stands in no run.
func isLeftOut(dir int8) bool {
	switch dir {
	case api.DirLRE, api.DirRLE, api.DirLRO, api.DirRLO, api.DirPDF, api.DirBN:
		return true
	}
	return false
}

// firstStrong tells the first strong class of the first paragraph.
func firstStrong(dirs []int8) int8 {
	open := 0
	for _, dir := range dirs {
		switch {
		case dir == api.DirB:
			return none
		case beginsIsolate(dir):
			open++
		case dir == api.DirPDI:
			open = max(open-1, 0)
		case open == 0 && isStrong(dir):
			return dir
		}
	}
	return none
}

// isolates tells which signs and PDIs belong together, and for each sign the first strong class of the stretch in which it is open. Both are told at once, so that signs that stand within one another are not gone through again and again.
func isolates(dirs []int8) (pairs []int, firsts []int8) {
	pairs = make([]int, len(dirs))
	firsts = make([]int8, len(dirs))
	var open []int
	for at := range len(dirs) {
		pairs[at], firsts[at] = none, none
		last := len(open) - 1
		switch dir := dirs[at]; {
		case dir == api.DirB:
			open = open[:0]
		case beginsIsolate(dir):
			open = append(open, at)
		case last < 0:
		case dir == api.DirPDI:
			pairs[at], pairs[open[last]] = open[last], at
			open = open[:last]
		case isStrong(dir) && firsts[open[last]] == none:
			firsts[open[last]] = dir
		}
	}
	return pairs, firsts
}
