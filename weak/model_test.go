package weak_test

import (
	"slices"

	"shuttle/api"
)

// The model is the chapter's rules, sentence by sentence: of each place it is asked anew what stands around it. Of the program it asks nothing.

func counts(kind int8) int8 {
	if kind < 0 || kind > 22 {
		return api.DirON
	}
	return kind
}

func countsAsSide(sos int8) int8 {
	if sos == api.DirR {
		return api.DirR
	}
	return api.DirL
}

func in(kind int8, kinds ...int8) bool { return slices.Contains(kinds, kind) }

// nearest is that one of the kinds that stands nearest ahead of the place at; other, if none does.
func nearest(l kinds, at int, other int8, kinds ...int8) int8 {
	for at--; at >= 0; at-- {
		if in(l[at], kinds...) {
			return l[at]
		}
	}
	return other
}

// between tells whether the place at stands between two of the kind.
func between(l kinds, at int, kind int8) bool {
	return at > 0 && at < len(l)-1 && l[at-1] == kind && l[at+1] == kind
}

// besideDigit tells whether the longest row of ET in which the place at stands has an EN right ahead of it or right behind it.
func besideDigit(l kinds, at int) bool {
	from, to := at, at
	for from > 0 && l[from-1] == api.DirET {
		from--
	}
	for to < len(l) && l[to] == api.DirET {
		to++
	}
	return from > 0 && l[from-1] == api.DirEN || to < len(l) && l[to] == api.DirEN
}

// becomes is what the rule n makes of the place at of l, of which the rule has already gone over what stands ahead of it (in made) and not yet over the rest.
func becomes(n int, l, made kinds, at int, sos int8) int8 {
	kind := l[at]
	switch {
	case n == 1 && kind == api.DirNSM && at == 0:
		return countsAsSide(sos)
	case n == 1 && kind == api.DirNSM && in(made[at-1], api.DirLRI, api.DirRLI, api.DirFSI, api.DirPDI):
		return api.DirON
	case n == 1 && kind == api.DirNSM:
		return made[at-1]
	case n == 2 && kind == api.DirEN && nearest(made, at, -1, api.DirL, api.DirR, api.DirAL) == api.DirAL:
		return api.DirAN
	case n == 3 && kind == api.DirAL:
		return api.DirR
	case n == 4 && in(kind, api.DirES, api.DirCS) && between(l, at, api.DirEN):
		return api.DirEN
	case n == 4 && kind == api.DirCS && between(l, at, api.DirAN):
		return api.DirAN
	case n == 5 && kind == api.DirET && besideDigit(l, at):
		return api.DirEN
	case n == 6 && in(kind, api.DirES, api.DirET, api.DirCS):
		return api.DirON
	case n == 7 && kind == api.DirEN && nearest(l, at, countsAsSide(sos), api.DirL, api.DirR) == api.DirL:
		return api.DirL
	}
	return kind
}

func stepOf(n int, l kinds, sos int8) kinds {
	counted := make(kinds, len(l))
	for at := range l {
		counted[at] = counts(l[at])
	}
	var made kinds
	for at := range counted {
		made = append(made, becomes(n, counted, made, at, sos))
	}
	return made
}

func resolvedOf(l kinds, sos int8) kinds {
	for n := 1; n <= 7; n++ {
		l = stepOf(n, l, sos)
	}
	return l
}
