package level_test

import (
	"slices"

	"shuttle/api"
)

// The model is the chapter's sections Words and Promises, sentence by sentence, with lists that are looked through anew each time. Of the program it asks nothing.

func counts(dir int8) int8 {
	if dir < 0 || dir > 22 {
		return api.DirON
	}
	return dir
}

func in(dir int8, dirs ...int8) bool { return slices.Contains(dirs, dir) }

func begins(dir int8) bool { return in(dir, api.DirLRI, api.DirRLI, api.DirFSI) }

func leftOut(dir int8) bool {
	return in(dir, api.DirLRE, api.DirRLE, api.DirLRO, api.DirRLO, api.DirPDF, api.DirBN)
}

func directionOf(level int) int8 {
	return []int8{api.DirL, api.DirR}[level%2]
}

// paragraphs are the places at which they begin, and the end.
func paragraphs(dirs []int8) []int {
	borders := []int{0}
	for at, dir := range dirs {
		if dir == api.DirB {
			borders = append(borders, at+1)
		}
	}
	if borders[len(borders)-1] < len(dirs) {
		borders = append(borders, len(dirs))
	}
	return borders
}

// around is the paragraph in which at stands.
func around(dirs []int8, at int) (from, to int) {
	borders := paragraphs(dirs)
	for i := range len(borders) - 1 {
		if borders[i] <= at && at < borders[i+1] {
			return borders[i], borders[i+1]
		}
	}
	panic("no place")
}

// pdiOf is the place of the PDI of the sign at the place at; -1, if it has none.
func pdiOf(dirs []int8, at int) int {
	_, end := around(dirs, at)
	open := 1
	for p := at + 1; p < end; p++ {
		if begins(dirs[p]) {
			open++
		}
		if dirs[p] == api.DirPDI {
			open--
		}
		if open == 0 {
			return p
		}
	}
	return -1
}

// openUpTo is the end of the stretch in which the sign at the place at is open.
func openUpTo(dirs []int8, at int) int {
	if pdi := pdiOf(dirs, at); pdi >= 0 {
		return pdi
	}
	_, end := around(dirs, at)
	return end
}

// firstStrongOf is the first strong one of the places from up to to; DirON, if there is none.
func firstStrongOf(dirs []int8, from, to int) int8 {
	within := func(at int) bool {
		for sign := from; sign < at; sign++ {
			if begins(dirs[sign]) && at < openUpTo(dirs, sign) {
				return true
			}
		}
		return false
	}
	for at := from; at < to; at++ {
		if in(dirs[at], api.DirL, api.DirR, api.DirAL) && !within(at) {
			return dirs[at]
		}
	}
	return api.DirON
}

func baseOf(dirs []int8, want int8) uint8 {
	if want == api.WantLeft {
		return 0
	}
	if want == api.WantRight {
		return 1
	}
	if len(dirs) > 0 && in(firstStrongOf(dirs, 0, paragraphs(dirs)[1]), api.DirR, api.DirAL) {
		return 1
	}
	return 0
}

func pairsOf(dirs []int8) []int {
	pairs := slices.Repeat([]int{-1}, len(dirs))
	for at, dir := range dirs {
		if begins(dir) {
			if pdi := pdiOf(dirs, at); pdi >= 0 {
				pairs[at], pairs[pdi] = pdi, at
			}
		}
	}
	return pairs
}

// said is a state; over is -1, if it says nothing.
type said struct {
	level   int
	over    int8
	isolate bool
}

// above is the least level above that one which leaves this rest, parted by 2.
func above(level, rest int) int {
	for level++; level%2 != rest; level++ {
	}
	return level
}

func levelsOf(dirs []int8, base uint8) (levels []uint8, kinds []int8) {
	bottom := said{level: int(min(base, 125)), over: -1}
	var pile []said
	var isolates, deepIsolates, deepEmbeddings int
	tell := func(s said, kind int8) {
		levels, kinds = append(levels, uint8(s.level)), append(kinds, kind)
	}
	tellSaid := func(s said, dir int8) {
		if s.over >= 0 {
			dir = s.over
		}
		tell(s, dir)
	}
	borders := paragraphs(dirs)
	for at := range dirs {
		if slices.Contains(borders, at) {
			pile = []said{bottom}
			isolates, deepIsolates, deepEmbeddings = 0, 0, 0
		}
		top := func() said { return pile[len(pile)-1] }
		switch dir := counts(dirs[at]); dir {
		case api.DirLRE, api.DirRLE, api.DirLRO, api.DirRLO:
			tell(top(), api.DirBN)
			n, over := above(top().level, 0), int8(-1)
			if in(dir, api.DirRLE, api.DirRLO) {
				n = above(top().level, 1)
			}
			if dir == api.DirLRO {
				over = api.DirL
			}
			if dir == api.DirRLO {
				over = api.DirR
			}
			if n <= 125 && deepIsolates == 0 && deepEmbeddings == 0 {
				pile = append(pile, said{n, over, false})
			} else if deepIsolates == 0 {
				deepEmbeddings++
			}
		case api.DirLRI, api.DirRLI, api.DirFSI:
			tellSaid(top(), dir)
			n := above(top().level, 0)
			if dir == api.DirRLI || dir == api.DirFSI && in(firstStrongOf(dirs, at+1, openUpTo(dirs, at)), api.DirR, api.DirAL) {
				n = above(top().level, 1)
			}
			if n <= 125 && deepIsolates == 0 && deepEmbeddings == 0 {
				isolates++
				pile = append(pile, said{n, -1, true})
			} else {
				deepIsolates++
			}
		case api.DirPDI:
			if deepIsolates > 0 {
				deepIsolates--
			} else if isolates > 0 {
				deepEmbeddings = 0
				for {
					off := top()
					pile = slices.Clone(pile[:len(pile)-1])
					if off.isolate {
						break
					}
				}
				isolates--
			}
			tellSaid(top(), dir)
		case api.DirPDF:
			if deepIsolates > 0 {
			} else if deepEmbeddings > 0 {
				deepEmbeddings--
			} else if !top().isolate && len(pile) > 1 {
				pile = slices.Clone(pile[:len(pile)-1])
			}
			tell(top(), api.DirBN)
		case api.DirBN:
			tell(top(), api.DirBN)
		case api.DirB:
			tell(bottom, api.DirB)
		default:
			tellSaid(top(), dir)
		}
	}
	return levels, kinds
}

// stretchesOf are the stretches, each as its places.
func stretchesOf(dirs []int8, levels []uint8) [][]int {
	var stretches [][]int
	borders := paragraphs(dirs)
	for i := range len(borders) - 1 {
		var stretch []int
		for at := borders[i]; at < borders[i+1]; at++ {
			if leftOut(dirs[at]) {
				continue
			}
			if len(stretch) > 0 && levels[stretch[0]] != levels[at] {
				stretches = append(stretches, stretch)
				stretch = nil
			}
			stretch = append(stretch, at)
		}
		if len(stretch) > 0 {
			stretches = append(stretches, stretch)
		}
	}
	return stretches
}

func runsOf(dirs []int8, levels []uint8) [][]int {
	n := min(len(dirs), len(levels))
	dirs = dirs[:n]
	stretches := stretchesOf(dirs, levels)
	pairs := pairsOf(dirs)
	// behind is the stretch that comes behind that one in its run; nil, if none does.
	behind := func(stretch []int) []int {
		last := stretch[len(stretch)-1]
		for _, other := range stretches {
			if begins(dirs[last]) && other[0] == pairs[last] {
				return other
			}
		}
		return nil
	}
	follows := map[int]bool{}
	for _, stretch := range stretches {
		if other := behind(stretch); other != nil {
			follows[other[0]] = true
		}
	}
	var runs [][]int
	for _, stretch := range stretches {
		if follows[stretch[0]] {
			continue
		}
		var run []int
		for ; stretch != nil; stretch = behind(stretch) {
			run = append(run, stretch...)
		}
		runs = append(runs, run)
	}
	return runs
}

func sidesOf(dirs []int8, levels []uint8, base uint8, run []int) (sos, eos int8) {
	n := min(len(dirs), len(levels))
	dirs = dirs[:n]
	var places []int
	for _, at := range run {
		if 0 <= at && at < n {
			places = append(places, at)
		}
	}
	if len(places) == 0 {
		return directionOf(int(base)), directionOf(int(base))
	}
	first, last := places[0], places[len(places)-1]
	ahead, behind := base, base
	from, _ := around(dirs, first)
	for at := from; at < first; at++ {
		if !leftOut(dirs[at]) {
			ahead = levels[at]
		}
	}
	_, to := around(dirs, last)
	for at := to - 1; at > last; at-- {
		if !leftOut(dirs[at]) {
			behind = levels[at]
		}
	}
	if begins(dirs[last]) && pdiOf(dirs, last) < 0 {
		behind = base
	}
	return directionOf(int(max(levels[first], ahead))), directionOf(int(max(levels[last], behind)))
}
