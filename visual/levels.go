package visual

import (
	"shuttle/api"
	"shuttle/class"
	"shuttle/pair"
	"shuttle/weak"
)

// classes are the classes of the characters.
func classes(l []rune) []int8 {
	dirs := make([]int8, len(l))
	for at, r := range l {
		dirs[at] = class.Dir(r)
	}
	return dirs
}

// pick is what list has at the places.
func pick[T any](list []T, places []int) []T {
	picked := make([]T, len(places))
	for n, at := range places {
		picked[n] = list[at]
	}
	return picked
}

// resolved are the kinds that those of a run of the level x become.
func resolved(runes []rune, kinds []int8, x uint8, sos, eos int8) []int8 {
	return pair.Resolve(runes, weak.Resolve(kinds, sos), x, sos, eos)
}

// raised is the level of a place of the kind in a run of the level x: the least one from x on that runs as the kind does.
func raised(x uint8, kind int8) uint8 {
	switch kind {
	case api.DirL:
		return x + x%2
	case api.DirR:
		return x | 1
	default:
		// Digits: they run to the right as L does, but lie above x even so.
		return (x + 2) &^ 1
	}
}

// fill gives levels to the places that stand in no run, and to B.
func fill(levels []uint8, dirs []int8, base uint8) {
	// At a paragraph's beginning it is base again: that is the level of the B ahead of it.
	ahead := base
	for at, dir := range dirs {
		switch {
		case dir == api.DirB:
			levels[at] = base
		case isLeftOut(dir):
			levels[at] = ahead
		}
		ahead = levels[at]
	}
}

// isLeftOut tells whether a place of the class dir stands in no run.
func isLeftOut(dir int8) bool {
	switch dir {
	case api.DirLRE, api.DirRLE, api.DirLRO, api.DirRLO, api.DirPDF, api.DirBN:
		return true
	}
	return false
}
