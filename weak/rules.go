package weak

import "shuttle/api"

// rule changes kinds, ahead of which the direction sos stands: DirL or DirR.
type rule func(kinds []int8, sos int8)

// rules are all of them, in their order.
func rules() [7]rule {
	return [7]rule{marks, arabicDigits, arabicLetters, separators, terminators, signs, digits}
}

// marks is rule 1: a mark is what stands right ahead of it.
func marks(kinds []int8, sos int8) {
	ahead := sos
	for at, kind := range kinds {
		switch kind {
		case api.DirNSM:
			kinds[at] = ahead
		case api.DirLRI, api.DirRLI, api.DirFSI, api.DirPDI:
			ahead = api.DirON
		default:
			ahead = kind
		}
	}
}

// arabicDigits is rule 2: digits behind an Arabic letter are Arabic ones.
func arabicDigits(kinds []int8, _ int8) {
	arabic := false
	for at, kind := range kinds {
		switch kind {
		case api.DirL, api.DirR, api.DirAL:
			arabic = kind == api.DirAL
		case api.DirEN:
			if arabic {
				kinds[at] = api.DirAN
			}
		}
	}
}

// arabicLetters is rule 3: by now they are as all letters that run to the left.
func arabicLetters(kinds []int8, _ int8) {
	for at, kind := range kinds {
		if kind == api.DirAL {
			kinds[at] = api.DirR
		}
	}
}

// separators is rule 4: a single one between two digits of one class is of it, too.
func separators(kinds []int8, _ int8) {
	for at := 1; at < len(kinds)-1; at++ {
		ahead, behind := kinds[at-1], kinds[at+1]
		if ahead == behind && mayPart(kinds[at], ahead) {
			kinds[at] = ahead
		}
	}
}

// mayPart tells whether a separator of that kind may stand within a number whose digits are of the other kind.
func mayPart(separator, digit int8) bool {
	switch separator {
	case api.DirES:
		return digit == api.DirEN
	case api.DirCS:
		return digit == api.DirEN || digit == api.DirAN
	}
	return false
}

// terminators is rule 5: a row of them belongs to the digit right beside it.
func terminators(kinds []int8, _ int8) {
	from, to := 0, 0
seek:
	if to == len(kinds) {
		return
	}
	if kinds[to] != api.DirET {
		to++
		goto seek
	}
	from = to
row:
	if to < len(kinds) && kinds[to] == api.DirET {
		to++
		goto row
	}
	if isDigit(kinds, from-1) || isDigit(kinds, to) {
		for at := range kinds[from:to] {
			kinds[from+at] = api.DirEN
		}
	}
	goto seek
}

// isDigit tells whether a DirEN stands at that place, if it is one of the list.
func isDigit(kinds []int8, at int) bool {
	return at >= 0 && at < len(kinds) && kinds[at] == api.DirEN
}

// signs is rule 6: separators and terminators that belong to no number have no direction.
func signs(kinds []int8, _ int8) {
	for at, kind := range kinds {
		switch kind {
		case api.DirES, api.DirET, api.DirCS:
			kinds[at] = api.DirON
		}
	}
}

// digits is rule 7: those behind what runs to the right are as letters that do.
func digits(kinds []int8, sos int8) {
	strong := sos
	for at, kind := range kinds {
		switch kind {
		case api.DirL, api.DirR:
			strong = kind
		case api.DirEN:
			if strong == api.DirL {
				kinds[at] = api.DirL
			}
		}
	}
}
