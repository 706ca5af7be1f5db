package norm

// A syllable has a first part, a vowel, and a last part or none.
const (
	firstLead     = 0x1100
	leads         = 19
	firstVowel    = 0x1161
	vowels        = 21
	noFinal       = 0x11A7 // no part of a syllable, but the number right ahead of the last parts'
	finals        = 28     // the last parts, and that there is none
	firstSyllable = 0xAC00
	syllables     = leads * vowels * finals
)

// syllableParts tells the two that the syllable r is the pair of.
func syllableParts(r rune) (first, second rune) {
	at := r - firstSyllable
	if final := at % finals; final != 0 {
		return r - final, noFinal + final
	}
	at /= finals
	return firstLead + at/vowels, firstVowel + at%vowels
}

// syllable tells the syllable that a and b are together; 0, if they are none.
func syllable(a, b rune) rune {
	switch {
	case within(a, firstLead, leads) && within(b, firstVowel, vowels):
		return firstSyllable + ((a-firstLead)*vowels+b-firstVowel)*finals
	case isOpen(a) && within(b, noFinal+1, finals-1):
		return a + b - noFinal
	}
	return 0
}

// isOpen tells whether r is a syllable without a last part.
func isOpen(r rune) bool {
	return within(r, firstSyllable, syllables) && (r-firstSyllable)%finals == 0
}
