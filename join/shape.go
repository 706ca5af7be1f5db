package join

import (
	"shuttle/api"
	"shuttle/class"
)

// The letters of the table stand from hamza to yeh, and so do their shapes; behind the last one of yeh stand those of lam with an alef, two of each alef.
const (
	hamza       = 0x621
	lam         = 0x644
	yeh         = 0x64A
	hamzaShape  = 0xFE80
	lamWithAlef = 0xFEF5
	lastShape   = 0xFEFC
)

// firstShapes are the first shapes of the letters from hamza to yeh; 0 of what has none.
func firstShapes() [yeh - hamza + 1]rune {
	return [...]rune{
		0xFE80, 0xFE81, 0xFE83, 0xFE85, 0xFE87, // 621 to 625
		0xFE89, 0xFE8D, 0xFE8F, 0xFE93, 0xFE95, 0xFE99, // 626 to 62B
		0xFE9D, 0xFEA1, 0xFEA5, 0xFEA9, 0xFEAB, 0xFEAD, 0xFEAF, // 62C to 632
		0xFEB1, 0xFEB5, 0xFEB9, 0xFEBD, 0xFEC1, 0xFEC5, 0xFEC9, 0xFECD, // 633 to 63A
		0, 0, 0, 0, 0, 0, // 63B to 640
		0xFED1, 0xFED5, 0xFED9, 0xFEDD, 0xFEE1, 0xFEE5, 0xFEE9, // 641 to 647
		0xFEED, 0xFEEF, 0xFEF1, // 648 to 64A
	}
}

// Shape tells the shape of that form of the letter r; r itself, if it is no letter of the table (P11.2).
func Shape(r rune, form int8) rune {
	if r < hamza || r > yeh {
		return r
	}
	first := firstShapes()[r-hamza]
	if first == 0 {
		return r
	}
	return first + offset(class.Join(r), form)
}

// offset is how far behind the first shape of a letter that joins so the one of the form stands, or the one that stands in for it.
func offset(join, form int8) rune {
	switch {
	case join == api.JoinBoth && form == api.FormMiddle:
		return 3
	case join == api.JoinBoth && form == api.FormFirst:
		return 2
	case isLetter(join) && (form == api.FormMiddle || form == api.FormLast):
		return 1
	}
	return 0
}

// Plain tells the letters of a shape; r itself, if it is none (P11.4).
func Plain(r rune) []rune {
	switch {
	case r < hamzaShape || r > lastShape:
		return []rune{r}
	case r < lamWithAlef:
		return []rune{letterOf(r)}
	}
	alefs := [...]rune{0x622, 0x623, 0x625, 0x627}
	return []rune{lam, alefs[(r-lamWithAlef)/2]}
}

// letterOf is the letter of a shape: the last one whose shapes begin there or ahead of it.
func letterOf(shape rune) rune {
	var letter rune
	for n, first := range firstShapes() {
		if first != 0 && first <= shape {
			letter = hamza + rune(n)
		}
	}
	return letter
}
