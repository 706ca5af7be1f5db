package cluster

import "shuttle/class"

// The map of the layers has this one call scan and class alone, so that these numbers of package api stand here once more; a test holds them against those.
const (
	badNumber   = 0xFFFD
	maxRunes    = 32
	kindControl = 0
	kindFormat  = 1
	kindMark    = 2
	kindSymbol  = 7
)

// Characters that the chapter names.
const (
	lineFeed           = 0x0A
	carriageReturn     = 0x0D
	zeroWidthNonJoiner = 0x200C
	zeroWidthJoiner    = 0x200D
	lineSeparator      = 0x2028
	paragraphSeparator = 0x2029
	firstRegional      = 0x1F1E6
	lastRegional       = 0x1F1FF
)

// Where the stretches of a syllable's parts begin and end.
const (
	firstLead     = 0x1100
	firstVowel    = 0x1160
	firstFinal    = 0x11A8
	lastFinal     = 0x11FF
	firstSyllable = 0xAC00
	lastSyllable  = 0xD7A3
	finals        = 28 // syllables that are alike but for what ends them, with the one that nothing ends
)

// role is what a character does in clusters: a bit, so that several can be asked for at one time.
type role uint16

const none role = 0

const (
	alone    role = 1 << iota // a cluster by itself, and a bad byte
	carriage                  // 0D
	feed                      // 0A
	mark                      // a mark, or 200C
	joiner                    // 200D
	regional
	picture
	lead   // L
	vowel  // V
	final  // T
	open   // LV
	closed // LVT
	other
	every = 1<<iota - 1
)

// roleOf tells the role of the number r, which stands in size bytes.
func roleOf(r rune, size int) role {
	switch {
	case r == badNumber && size == 1:
		return alone
	case r == carriageReturn:
		return carriage
	case r == lineFeed:
		return feed
	case r == zeroWidthNonJoiner:
		return mark
	case r == zeroWidthJoiner:
		return joiner
	case r == lineSeparator, r == paragraphSeparator:
		return alone
	case firstRegional <= r && r <= lastRegional:
		return regional
	case firstLead <= r && r <= lastFinal:
		return roleOfPart(r)
	case firstSyllable <= r && r <= lastSyllable:
		return roleOfSyllable(r)
	}
	return roleOfKind(r)
}

func roleOfPart(r rune) role {
	switch {
	case r < firstVowel:
		return lead
	case r < firstFinal:
		return vowel
	}
	return final
}

func roleOfSyllable(r rune) role {
	if (r-firstSyllable)%finals == 0 {
		return open
	}
	return closed
}

// roleOfKind tells the role of a character that the chapter does not name by its number.
func roleOfKind(r rune) role {
	switch class.Kind(r) {
	case kindControl, kindFormat:
		return alone
	case kindMark:
		return mark
	case kindSymbol:
		if class.Wide(r, false) == 2 {
			return picture
		}
	}
	return other
}
