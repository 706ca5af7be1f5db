package visual_test

import (
	"slices"

	"shuttle/api"
	"shuttle/class"
	"shuttle/level"
	"shuttle/pair"
	"shuttle/weak"
)

// The model is the chapter's sentences, each paragraph cut out and gone through by itself. It asks the layers that the chapter names; of the package it asks nothing.

func in(dir int8, dirs ...int8) bool { return slices.Contains(dirs, dir) }

// leftOut are chapter 7's words.
func leftOut(dir int8) bool {
	return in(dir, api.DirLRE, api.DirRLE, api.DirLRO, api.DirRLO, api.DirPDF, api.DirBN)
}

func dirsOf(l []rune) (dirs []int8) {
	for _, r := range l {
		dirs = append(dirs, class.Dir(r))
	}
	return dirs
}

// paragraphsOf are the characters up to and with the first B, those up to and with the next one, and so on.
func paragraphsOf(l []rune) (all [][]rune) {
	from := 0
	for at, r := range l {
		if class.Dir(r) == api.DirB || at == len(l)-1 {
			all = append(all, slices.Clone(l[from:at+1]))
			from = at + 1
		}
	}
	return all
}

func levelsOf(l []rune, want int8) (levels []uint8, base uint8) {
	base = level.Base(dirsOf(l), want)
	for _, paragraph := range paragraphsOf(l) {
		levels = append(levels, levelsOfParagraph(paragraph, base)...)
	}
	return levels, base
}

// become is what the kinds of the places that are not left out are in the end.
func become(l []rune, dirs []int8, base uint8, levels []uint8, kinds []int8) map[int]int8 {
	ends := map[int]int8{}
	for _, run := range level.Runs(dirs, levels) {
		var runes []rune
		var of []int8
		for _, at := range run {
			runes, of = append(runes, l[at]), append(of, kinds[at])
		}
		sos, eos := level.Sides(dirs, levels, base, run)
		for n, kind := range pair.Resolve(runes, weak.Resolve(of, sos), levels[run[0]], sos, eos) {
			ends[run[n]] = kind
		}
	}
	return ends
}

func levelsOfParagraph(l []rune, base uint8) (told []uint8) {
	dirs := dirsOf(l)
	levels, kinds := level.Levels(dirs, base)
	ends := become(l, dirs, base, levels, kinds)
	for at, x := range levels {
		switch kind := ends[at]; {
		case dirs[at] == api.DirB:
			x = base
		case leftOut(dirs[at]) && at == 0:
			x = base
		case leftOut(dirs[at]):
			x = told[at-1]
		case x%2 == 0 && kind == api.DirR:
			x += 1
		case x%2 == 0 && in(kind, api.DirAN, api.DirEN):
			x += 2
		case x%2 == 1 && in(kind, api.DirL, api.DirEN, api.DirAN):
			x += 1
		}
		told = append(told, x)
	}
	return told
}

// brought is n, brought into a stretch from a to b.
func brought(n, a, b int) int {
	if n < a {
		return a
	}
	if n > b {
		return b
	}
	return n
}

// countsAs is the level as which that one counts in Row and Order.
func countsAs(level uint8) uint8 {
	if level > 126 {
		return 126
	}
	return level
}

func rowOf(l []rune, levels []uint8, base uint8, from, to int) (row []uint8) {
	n := min(len(l), len(levels))
	from, to = brought(from, 0, n), brought(to, 0, n)
	// goesAlong tells whether from at on only such stand as go along, up to an S or B in the row or the row's end.
	goesAlong := func(at int) bool {
		for ; at < to; at++ {
			dir := class.Dir(l[at])
			if in(dir, api.DirS, api.DirB) {
				return true
			}
			if !in(dir, api.DirWS, api.DirLRI, api.DirRLI, api.DirFSI, api.DirPDI) && !leftOut(dir) {
				return false
			}
		}
		return true
	}
	for at := from; at < to; at++ {
		if goesAlong(at) {
			row = append(row, countsAs(base))
		} else {
			row = append(row, countsAs(levels[at]))
		}
	}
	return row
}

func orderOf(levels []uint8) []int {
	order := []int{}
	for at := range levels {
		order = append(order, at)
	}
	for n := uint8(126); n >= 1; n-- {
		// as they stand by then
		high := func(at int) bool { return at < len(order) && countsAs(levels[order[at]]) >= n }
		for from := 0; from < len(order); from++ {
			to := from
			for high(to) {
				to++
			}
			slices.Reverse(order[from:to])
			from = max(from, to-1)
		}
	}
	return order
}

func turnedOf(order []int) (turned []int) {
	for place := range order {
		if !slices.Contains(order, place) {
			return nil
		}
		turned = append(turned, slices.Index(order, place))
	}
	return turned
}

func mirroredOf(r rune, level uint8) rune {
	if level%2 == 1 {
		return class.Mirror(r)
	}
	return r
}
