package fold_test

import (
	"math"
	"strings"
	"testing"

	"shuttle/fold"
)

// numbers is one more than the last character.
const numbers = 0x110000

// wrong is numbers that are no characters; some are a letter, if a part of their bits is taken for the whole, or if what is added wraps round.
var wrong = []rune{-1, -0x41, math.MinInt32, math.MinInt32 + 1, math.MinInt32 + 0x41, math.MinInt32 + 0x61, math.MinInt32 + 0x80, 0xD7FF, 0xD800, 0xDC41, 0xDFFF, numbers, numbers + 0x41, numbers + 0x61, 0x1000041, 0x10003C2, math.MaxInt32 - 0x20, math.MaxInt32 - 1, math.MaxInt32}

// asked hands out every number from 0 to 10FFFF, and such as are no characters.
func asked(f func(r rune)) {
	for r := range rune(numbers) {
		f(r)
	}
	for _, r := range wrong {
		f(r)
	}
}

// kinds are one character, or bad byte, for each thing that the chapter tells apart. Of the bad bytes some would be a letter, if they stood side by side.
var kinds = []string{
	"A", "b", "\u00C9", "\u00FF", "\u00DF", "\u03A3", "\u03C3", "\u03C2", "\u03AC", "\u0130", "\u0149", "\u212A", "\u0301", "\u0323",
	"1", ".", " ", "\u00AD", "\u05D0", "\uFF21", "\uFFFD", "\xCE", "\xA3", "\xFF", "\x00",
}

// few are such that much follows from how they stand.
var few = []string{"A", "\u03A3", "\u03C2", "\u00DF", "\u0301", "1", " ", "\xFF"}

// texts hands out s and all texts that have up to n of the parts behind it.
func texts(s string, parts []string, n int, f func(s string)) {
	f(s)
	if n == 0 {
		return
	}
	for _, part := range parts {
		texts(s+part, parts, n-1, f)
	}
}

// all hands out texts of all kinds, longer ones of few, and each character by itself.
func all(f func(s string)) {
	texts("", kinds, 3, f)
	texts("", few, 5, f)
	for r := range rune(numbers) {
		f(string(r))
	}
}

// P5.1

func TestLetters(t *testing.T) {
	asked(func(r rune) {
		if got, want := fold.Small(r), smallOf(r); got != want {
			t.Errorf("Small(%x) = %x, not %x", r, got, want)
		}
		if got, want := fold.Great(r), greatOf(r); got != want {
			t.Errorf("Great(%x) = %x, not %x", r, got, want)
		}
	})
}

func TestLettersExamples(t *testing.T) {
	for _, x := range [][3]rune{
		{0x41, 0x61, 0x41}, {0x5A, 0x7A, 0x5A}, {0x61, 0x61, 0x41}, {0x7A, 0x7A, 0x5A}, {0x40, 0x40, 0x40}, {0x5B, 0x5B, 0x5B}, {0x60, 0x60, 0x60}, {0x7B, 0x7B, 0x7B},
		{0xD6, 0xF6, 0xD6}, {0xD7, 0xD7, 0xD7}, {0xD8, 0xF8, 0xD8}, {0xDE, 0xFE, 0xDE}, {0xDF, 0xDF, 0xDF}, {0xF7, 0xF7, 0xF7}, {0xFF, 0xFF, 0x178}, {0x178, 0xFF, 0x178},
		{0x100, 0x101, 0x100}, {0x12F, 0x12F, 0x12E}, {0x130, 0x130, 0x130}, {0x131, 0x131, 0x131}, {0x132, 0x133, 0x132}, {0x137, 0x137, 0x136}, {0x138, 0x138, 0x138}, {0x139, 0x13A, 0x139}, {0x13A, 0x13A, 0x139},
		{0x148, 0x148, 0x147}, {0x149, 0x149, 0x149}, {0x14A, 0x14B, 0x14A}, {0x177, 0x177, 0x176}, {0x179, 0x17A, 0x179}, {0x17E, 0x17E, 0x17D}, {0x17F, 0x17F, 0x17F},
		{0x386, 0x3AC, 0x386}, {0x387, 0x387, 0x387}, {0x388, 0x3AD, 0x388}, {0x38A, 0x3AF, 0x38A}, {0x38B, 0x38B, 0x38B}, {0x38C, 0x3CC, 0x38C}, {0x38D, 0x38D, 0x38D}, {0x38E, 0x3CD, 0x38E}, {0x38F, 0x3CE, 0x38F},
		{0x390, 0x390, 0x390}, {0x3A1, 0x3C1, 0x3A1}, {0x3A2, 0x3A2, 0x3A2}, {0x3A3, 0x3C3, 0x3A3}, {0x3B0, 0x3B0, 0x3B0}, {0x3C2, 0x3C2, 0x3A3}, {0x3C3, 0x3C3, 0x3A3}, {0x3CB, 0x3CB, 0x3AB},
		{0x400, 0x450, 0x400}, {0x40F, 0x45F, 0x40F}, {0x410, 0x430, 0x410}, {0x44F, 0x44F, 0x42F}, {0x460, 0x461, 0x460}, {0x481, 0x481, 0x480}, {0x482, 0x482, 0x482}, {0x489, 0x489, 0x489}, {0x48A, 0x48B, 0x48A},
		{0x4BF, 0x4BF, 0x4BE}, {0x4C0, 0x4CF, 0x4C0}, {0x4C1, 0x4C2, 0x4C1}, {0x4CE, 0x4CE, 0x4CD}, {0x4CF, 0x4CF, 0x4C0}, {0x4D0, 0x4D1, 0x4D0}, {0x52F, 0x52F, 0x52E}, {0x530, 0x530, 0x530},
		{0x531, 0x561, 0x531}, {0x586, 0x586, 0x556}, {0x587, 0x587, 0x587}, {0xFF21, 0xFF41, 0xFF21}, {0xFF5A, 0xFF5A, 0xFF3A}, {0x212A, 0x212A, 0x212A}, {0x1E00, 0x1E00, 0x1E00}, {-1, -1, -1}, {0xD800, 0xD800, 0xD800}, {numbers, numbers, numbers},
	} {
		if small, great := fold.Small(x[0]), fold.Great(x[0]); small != x[1] || great != x[2] {
			t.Errorf("Small(%x), Great(%[1]x) = %x, %x, not %x, %x", x[0], small, great, x[1], x[2])
		}
	}
}

// P5.2, P5.3, P5.4

func TestTexts(t *testing.T) {
	all(func(s string) {
		for _, x := range []struct{ name, got, want string }{
			{"Lower", fold.Lower(s), madeOf(s, lowerAt)},
			{"Upper", fold.Upper(s), madeOf(s, upperAt)},
			{"Title", fold.Title(s), madeOf(s, titleAt)},
			{"Swap", fold.Swap(s), madeOf(s, swapAt)},
			{"Fold", fold.Fold(s), foldOf(s)},
		} {
			if x.got != x.want {
				t.Errorf("%s(%+q) = %+q, not %+q", x.name, s, x.got, x.want)
			}
		}
	})
}

// become checks what f makes of each of the texts.
func become(t *testing.T, name string, f func(s string) string, wants map[string]string) {
	t.Helper()
	for s, want := range wants {
		if got := f(s); got != want {
			t.Errorf("%s(%+q) = %+q, not %+q", name, s, got, want)
		}
	}
}

func TestLowerExamples(t *testing.T) {
	become(t, "Lower", fold.Lower, map[string]string{
		"":                         "",
		"\u0391\u03A3":             "\u03B1\u03C2",
		"\u03A3\u0391":             "\u03C3\u03B1",
		"\u0391\u03A3\u0301.":      "\u03B1\u03C2\u0301.",
		"\u0391\u03A3\u0391":       "\u03B1\u03C3\u03B1",
		"\u03A3":                   "\u03C3",
		"A\xFFB":                   "a\xFFb",
		"\u0391\u0301\u03A3":       "\u03B1\u0301\u03C2",
		"\u0301\u03A3":             "\u0301\u03C3",
		"\u0391\u03A3\u0301\u0391": "\u03B1\u03C3\u0301\u03B1",
		"\u0391\u03A3\u0301":       "\u03B1\u03C2\u0301",
		"\u0391\u03A31":            "\u03B1\u03C21",
		"1\u03A3":                  "1\u03C3",
		"\u0391\xFF\u03A3":         "\u03B1\xFF\u03C3",
		"\u0391\u03A3\xFF\u0391":   "\u03B1\u03C2\xFF\u03B1",
		"\u0391\u03A3\uFFFD\u0391": "\u03B1\u03C2\uFFFD\u03B1",
		"\u03A3\u03A3":             "\u03C3\u03C2",
		"\u0391\u03A3\u00AD\u0391": "\u03B1\u03C2\u00AD\u03B1",
		"a\u03A3 \u03A3a":          "a\u03C2 \u03C3a",
		"\u05D0\u03A3\u05D0":       "\u05D0\u03C3\u05D0",
		"\u03C2\u00DF":             "\u03C2\u00DF",
		"\xCEA\xA3":                "\xCEa\xA3",
	})
}

func TestUpperExamples(t *testing.T) {
	become(t, "Upper", fold.Upper, map[string]string{
		"":                   "",
		"stra\u00DFe":        "STRASSE",
		"\u00FF\xE4":         "\u0178\xE4",
		"\u0149":             "\u0149",
		"\u03B1\u03C2\u03C3": "\u0391\u03A3\u03A3",
		"e\u0301\u00E9":      "E\u0301\u00C9",
		"\xCF\x80\xCF":       "\u03A0\xCF",
		"\uFFFD\xEF\xBFa":    "\uFFFD\xEF\xBFA",
		"\u00DF\u00DF":       "SSSS",
	})
}

func TestTitleExamples(t *testing.T) {
	become(t, "Title", fold.Title, map[string]string{
		"":                                "",
		"o'neil \u00DFa 4th 4 th":         "O'Neil Ssa 4th 4 Th",
		"\u0391\u03A3 \u0391\u03A3\u0391": "\u0391\u03C2 \u0391\u03C3\u03B1",
		"abC DEF":                         "Abc Def",
		"\u0301a a\u0301b":                "\u0301a A\u0301b",
		"\xFFa\xFFB":                      "\xFFA\xFFB",
		"\uFFFDa":                         "\uFFFDA",
		"a\u00DF \u00DF\u00DF":            "A\u00DF Ss\u00DF",
		"\u03A3 \u03C2 \u03C3\u03C2":      "\u03A3 \u03A3 \u03A3\u03C2",
		"\u0661a_a":                       "\u0661a_A",
		"\u05D0a":                         "\u05D0a",
		"\u00ADa":                         "\u00ADA",
	})
}

func TestSwapExamples(t *testing.T) {
	become(t, "Swap", fold.Swap, map[string]string{
		"":                   "",
		"A\u03B2\u00DF":      "a\u0392SS",
		"1\xFF":              "1\xFF",
		"\u0391\u03A3":       "\u03B1\u03C3",
		"\u03B1\u03C2":       "\u0391\u03A3",
		"\u00FF\u0178":       "\u0178\u00FF",
		"\u0130\u0131\u0149": "\u0130\u0131\u0149",
		"\u04C0\u04CF\u04C1": "\u04CF\u04C0\u04C2",
	})
}

func TestFoldExamples(t *testing.T) {
	become(t, "Fold", fold.Fold, map[string]string{
		"":                   "",
		"\u00C9":             "e\u0301",
		"\u0391\u03A3":       "\u03B1\u03C3",
		"\u03B1\u03C2":       "\u03B1\u03C3",
		"\u0130":             "i\u0307",
		"\uFF33":             "\uFF53",
		"\u00DF\u0301":       "ss\u0301",
		"E\u0301\u0323":      "e\u0323\u0301",
		"\u212A\u212B\u2126": "ka\u030A\u03C9",
		"\uAC01":             "\u1100\u1161\u11A8",
		"\xC3A\x89":          "\xC3a\x89",
	})
}

func TestSameExamples(t *testing.T) {
	for _, x := range []struct {
		a, b string
		want bool
	}{
		{"STRASSE", "stra\u00DFe", true}, {"\u00E9", "E\u0301", true}, {"\xC3", "\xE3", false}, {"\u0391\u03A3", "\u03B1\u03C2", true},
		{"", "", true}, {"", "a", false}, {"a", "b", false}, {"a", "aa", false}, {"a\u0301\u0323", "\u1EA0\u0301", false}, {"A\u0323\u0301", "a\u0301\u0323", true},
		{"\u212A", "k", true}, {"\u0130", "i", false}, {"\u0131", "i", false}, {"\xFF", "\uFFFD", false}, {"\xFF", "\xFF", true}, {"\xFF", "\xFE", false}, {"\u00DF", "s", false}, {"S\u00DF", "\u00DFs", true}, {"A", "\uFF21", false},
	} {
		if got := fold.Same(x.a, x.b); got != x.want {
			t.Errorf("Same(%+q, %+q) = %v", x.a, x.b, got)
		}
		if got := fold.Same(x.b, x.a); got != x.want {
			t.Errorf("Same(%+q, %+q) = %v", x.b, x.a, got)
		}
	}
}

// As long as texts may be, and such that much stands between what is asked of one another.
func TestLongTexts(t *testing.T) {
	const half = 1 << 19
	marks := strings.Repeat("\u0301", half/2)
	for _, x := range [][4]string{
		{strings.Repeat("\u03A3", half), strings.Repeat("\u03C3", half-1) + "\u03C2", strings.Repeat("\u03A3", half), "\u03A3" + strings.Repeat("\u03C3", half-2) + "\u03C2"},
		{"A" + marks + "\u03A3" + marks, "a" + marks + "\u03C2" + marks, "A" + marks + "\u03A3" + marks, "A" + marks + "\u03C2" + marks},
		{strings.Repeat("\xFFa", half), strings.Repeat("\xFFa", half), strings.Repeat("\xFFA", half), strings.Repeat("\xFFA", half)},
		{strings.Repeat("\u00DF", half), strings.Repeat("\u00DF", half), strings.Repeat("SS", half), "Ss" + strings.Repeat("\u00DF", half-1)},
	} {
		if fold.Lower(x[0]) != x[1] || fold.Upper(x[0]) != x[2] || fold.Title(x[0]) != x[3] {
			t.Errorf("a text of %d bytes from %+q on", len(x[0]), x[0][:8])
		}
		if !fold.Same(x[0], x[1]) || !fold.Same(fold.Swap(x[0]), x[2]) {
			t.Errorf("a text of %d bytes from %+q on is not the same as what it becomes", len(x[0]), x[0][:8])
		}
	}
}
