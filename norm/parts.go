package norm

// The marks with which letters of the two Japanese scripts are pairs.
const (
	voicedMark     = 0x3099
	halfVoicedMark = 0x309A
)

// Where the scripts stand whose letters are parted by rules of their own.
const (
	firstGreek    = 0x0370
	greeks        = 0x90
	firstCyrillic = 0x0400
	cyrillics     = 0x100
	firstKana     = 0x3040
	kanas         = 0xC0
	katakana      = 0x60 // so much more than a letter of the first Japanese script is that of the second
)

// firstApart is the first character that is a pair.
const firstApart = 0xC0

// within tells whether r is one of the n numbers from first on.
func within(r, first, n rune) bool { return first <= r && r < first+n }

// split puts what r is when it is taken apart behind l.
func split(l []rune, r rune) []rune {
	r = single(r)
	first, second := parts(r)
	if second == 0 {
		return append(l, r)
	}
	return append(split(l, first), second)
}

// single tells what the single r is; r itself, if it is none.
func single(r rune) rune {
	switch r {
	case 0x212A:
		return 'K'
	case 0x2126:
		return 0x03A9
	case 0x212B:
		return 0x00C5
	}
	return r
}

// parts tells the two that r is the pair of; zeros, if it is none.
func parts(r rune) (first, second rune) {
	switch {
	case r < firstApart:
		return 0, 0
	case within(r, firstSyllable, syllables):
		return syllableParts(r)
	case within(r, firstKana, kanas):
		return kanaParts(r)
	}
	return letterOf(r), markOf(r)
}

// kanaParts tells the parts of a letter of the two Japanese scripts.
func kanaParts(r rune) (first, second rune) {
	letter := r
	if letter >= firstKana+katakana {
		letter -= katakana
	}
	switch letter - 1 {
	case 0x304B, 0x304D, 0x304F, 0x3051, 0x3053, 0x3055, 0x3057, 0x3059, 0x305B, 0x305D,
		0x305F, 0x3061, 0x3064, 0x3066, 0x3068, 0x306F, 0x3072, 0x3075, 0x3078, 0x307B:
		return r - 1, voicedMark
	}
	switch letter - 2 {
	case 0x306F, 0x3072, 0x3075, 0x3078, 0x307B:
		return r - 2, halfVoicedMark
	}
	return 0, 0
}
