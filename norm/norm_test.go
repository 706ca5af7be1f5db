package norm_test

import (
	"math"
	"slices"
	"strings"
	"testing"

	"shuttle/class"
	"shuttle/norm"
)

// numbers is one more than the last character.
const numbers = 0x110000

// wrong is numbers that are no characters; some are a letter or a part of a syllable, if a part of their bits is taken for the whole.
var wrong = []rune{-1, -5, -0xE9, math.MinInt32, math.MinInt32 + 0xE9, math.MinInt32 + 0x1100, 0xD7A4, 0xD800, 0xDC00, 0xDFFF, numbers, numbers + 0xE9, numbers + 0x301, 0x1000301, math.MaxInt32}

// asked hands out every number from 0 to 10FFFF, and such as are no characters.
func asked(f func(r rune)) {
	for r := range rune(numbers) {
		f(r)
	}
	for _, r := range wrong {
		f(r)
	}
}

// kinds are one character, or bad byte, for each thing that the chapter tells apart.
var kinds = []string{
	"a", "e", "K", "\u00E9", "\u00C2", "\u1EA5", "\u212B", "\u212A", "\u0301", "\u0302", "\u0327", "\u0323", "\u0334", "\u034F",
	"\u304B", "\u304C", "\u3071", "\u3099", "\u309A", "\u1100", "\u1161", "\u11A7", "\u11A8", "\uAC00", "\uAC01", "\x80", "\xCC", "\uFFFD", "\x00",
}

// few are such that much follows from how they stand.
var few = []string{"a", "\u00E2", "\u0301", "\u0302", "\u0328", "\u0323", "\u034F", "\xFF"}

// texts hands out s and all texts that have up to n of the parts behind it.
func texts(s string, parts []string, n int, f func(s string)) {
	f(s)
	if n == 0 {
		return
	}
	for _, part := range parts {
		texts(s+part, parts, n-1, f)
	}
}

// all hands out texts of all kinds, and longer ones of few.
func all(f func(s string)) {
	texts("", kinds, 3, f)
	texts("", few, 5, f)
}

// P4.1

func TestSplit(t *testing.T) {
	asked(func(r rune) {
		if got, want := norm.Split(r), splitOf(r); !slices.Equal(got, want) {
			t.Errorf("Split(%x) = %x, not %x", r, got, want)
		}
	})
}

func TestSplitExamples(t *testing.T) {
	for _, x := range []struct {
		r    rune
		want []rune
	}{
		{0xE9, []rune{'e', 0x301}}, {0x1EA5, []rune{'a', 0x302, 0x301}}, {0x212B, []rune{'A', 0x30A}}, {0xAC01, []rune{0x1100, 0x1161, 0x11A8}}, {'a', []rune{'a'}}, {-5, []rune{-5}},
		{0x212A, []rune{'K'}}, {0x2126, []rune{0x3A9}}, {0x390, []rune{0x3B9, 0x308, 0x301}}, {0x1ED2, []rune{'O', 0x302, 0x300}}, {0x130, []rune{'I', 0x307}},
		{0xAC00, []rune{0x1100, 0x1161}}, {0xD7A3, []rune{0x1112, 0x1175, 0x11C2}}, {0xD7A4, []rune{0xD7A4}}, {0xD788, []rune{0x1112, 0x1175}}, {0xABFF, []rune{0xABFF}},
		{0x304C, []rune{0x304B, 0x3099}}, {0x3071, []rune{0x306F, 0x309A}}, {0x30DD, []rune{0x30DB, 0x309A}}, {0x30F4, []rune{0x30F4}}, {0x3094, []rune{0x3094}}, {0x309E, []rune{0x309E}},
		{0x1F71, []rune{0x1F71}}, {0x344, []rune{0x344}}, {0x301, []rune{0x301}}, {0, []rune{0}}, {0x1E09, []rune{0x1E09}}, {0x385, []rune{0x385}},
	} {
		if got := norm.Split(x.r); !slices.Equal(got, x.want) {
			t.Errorf("Split(%x) = %x, not %x", x.r, got, x.want)
		}
	}
}

// P4.2

func TestPair(t *testing.T) {
	for _, x := range [][3]rune{
		{'e', 0x301, 0xE9}, {'K', 0, 0}, {'A', 0x30A, 0xC5}, {0x1100, 0x1161, 0xAC00}, {0xAC00, 0x11A8, 0xAC01}, {0xAC01, 0x11A8, 0}, {0xAC00, 0x11A7, 0},
		{0x1112, 0x1175, 0xD788}, {0xD788, 0x11C2, 0xD7A3}, {0xD788, 0x11C3, 0}, {0x1113, 0x1161, 0}, {0x10FF, 0x1161, 0}, {0x1100, 0x1160, 0}, {0x1100, 0x1176, 0}, {0x1161, 0x1100, 0}, {0x1100, 0x11A8, 0},
		{0xABE4, 0x11A8, 0}, {0xD7A4, 0x11A8, 0}, {0xAC1C, 0x11A8, 0xAC1D}, {0xAC00, 0x1161, 0}, {0x212B, 0, 0}, {0xC5, 0, 0}, {0x212B, 0x301, 0}, {'K', 0x327, 0x136}, {0x212A, 0x327, 0}, {0x2126, 0x301, 0}, {0x3A9, 0x301, 0x38F},
		{0xE2, 0x301, 0x1EA5}, {0xE1, 0x302, 0}, {'a', 0x1EA5, 0}, {0x301, 'e', 0}, {0x308, 0x301, 0}, {'e', 0x341, 0}, {'e', 'f', 0}, {0, 0, 0}, {0, 0x301, 0},
		{0x30AB, 0x3099, 0x30AC}, {0x304B, 0x309A, 0}, {0x306F, 0x3099, 0x3070}, {0x306F, 0x309A, 0x3071}, {0x30CF, 0x309A, 0x30D1}, {0x3046, 0x3099, 0}, {0x304C, 0x3099, 0},
		{0x391, 0x301, 0x386}, {'A', 0x301, 0xC1}, {0x415, 0x308, 0x401}, {0x395, 0x308, 0}, {0x406, 0x308, 0x407}, {0x399, 0x308, 0x3AA}, {'i', 0x307, 0},
	} {
		if got := norm.Pair(x[0], x[1]); got != x[2] {
			t.Errorf("Pair(%x, %x) = %x, not %x", x[0], x[1], got, x[2])
		}
	}
}

// sides tells all numbers that are the first or the second of a pair that is no syllable, with their neighbours, and such as are nothing of it.
func sides(side int) []rune {
	l := append(slices.Clone(wrong), 0, 'q', 0x212A, 0x2126, 0x212B, 0xFFFD, 0x1100, 0x1161, 0x11A8, 0xAC00, 0xAC01)
	for r, two := range modelPairs() {
		if r < 0xAC00 {
			l = append(l, two[side]-1, two[side], two[side]+1)
		}
	}
	slices.Sort(l)
	return slices.Compact(l)
}

func TestPairOfAllSides(t *testing.T) {
	seconds := sides(1)
	for _, a := range sides(0) {
		for _, b := range seconds {
			if got, want := norm.Pair(a, b), pairOf(a, b); got != want {
				t.Errorf("Pair(%x, %x) = %x, not %x", a, b, got, want)
			}
		}
	}
}

// Every first part with every vowel, and the neighbours of both.
func TestPairOfAllParts(t *testing.T) {
	for a := rune(0x10FE); a < 0x1180; a++ {
		for b := rune(0x1150); b < 0x11C5; b++ {
			if got, want := norm.Pair(a, b), pairOf(a, b); got != want {
				t.Errorf("Pair(%x, %x) = %x, not %x", a, b, got, want)
			}
		}
	}
}

func TestPairOfAllSyllables(t *testing.T) {
	for r := rune(0xABF0); r < 0xD7B0; r++ {
		for b := rune(0x11A6); b < 0x11C5; b++ {
			if got, want := norm.Pair(r, b), pairOf(r, b); got != want {
				t.Errorf("Pair(%x, %x) = %x, not %x", r, b, got, want)
			}
		}
	}
}

// P4.3

// orderOf tells l as the model puts it in order.
func orderOf(l []rune) []rune {
	var signs []sign
	for _, r := range l {
		signs = append(signs, signOf(r))
	}
	// The model's text of a number that is no character is FFFD's, but its number stays.
	order(signs)
	var ordered []rune
	for _, x := range signs {
		ordered = append(ordered, x.r)
	}
	return ordered
}

// lists hands out l and all lists that have up to n of the numbers behind it.
func lists(l, numbers []rune, n int, f func(l []rune)) {
	f(l)
	if n == 0 {
		return
	}
	for _, r := range numbers {
		lists(append(slices.Clip(l), r), numbers, n-1, f)
	}
}

func TestOrder(t *testing.T) {
	lists(nil, []rune{'a', 0x301, 0x302, 0x327, 0x328, 0x334, 0x34F, -5, 0xD800, numbers + 0x327}, 5, func(l []rune) {
		if got, want := norm.Order(l), orderOf(l); !slices.Equal(got, want) {
			t.Errorf("Order(%x) = %x, not %x", l, got, want)
		}
	})
}

func TestOrderExamples(t *testing.T) {
	for _, x := range []struct{ l, want []rune }{
		{nil, nil}, {[]rune{}, nil},
		{[]rune{0x301, 0x327, 'a', 0x328, 0x301}, []rune{0x327, 0x301, 'a', 0x328, 0x301}},
		{[]rune{0x301, 0x300, 0x302}, []rune{0x301, 0x300, 0x302}},
		{[]rune{0x301, 0x34F, 0x327}, []rune{0x301, 0x34F, 0x327}},
		{[]rune{0xE9, 0x301, -1, 0x345, 0x301, 0x5B0, 0x334}, []rune{0xE9, 0x301, -1, 0x334, 0x5B0, 0x301, 0x345}},
	} {
		if got := norm.Order(x.l); !slices.Equal(got, x.want) {
			t.Errorf("Order(%x) = %x, not %x", x.l, got, x.want)
		}
	}
}

// Every mark once, from the last one on: all numbers of marks that there are.
func TestOrderOfAllMarks(t *testing.T) {
	var l []rune
	for r := rune(numbers); r >= 0; r-- {
		if class.Mark(r) != 0 {
			l = append(l, r)
		}
	}
	want := slices.Clone(l)
	slices.SortStableFunc(want, func(a, b rune) int { return int(class.Mark(a)) - int(class.Mark(b)) })
	if got := norm.Order(l); !slices.Equal(got, want) {
		t.Errorf("Order of all marks = %x", got)
	}
}

// P4.4, P4.5, P4.6

func TestForms(t *testing.T) {
	all(func(s string) {
		apart, together := textOf(apartOf(s)), textOf(togetherOf(s))
		if got := norm.Apart(s); got != apart {
			t.Errorf("Apart(%+q) = %+q, not %+q", s, got, apart)
		}
		if got := norm.Together(s); got != together {
			t.Errorf("Together(%+q) = %+q, not %+q", s, got, together)
		}
	})
}

func TestFormsExamples(t *testing.T) {
	for _, x := range [][3]string{
		{"", "", ""},
		{"\u00E9", "e\u0301", "\u00E9"},
		{"e\u0301", "e\u0301", "\u00E9"},
		{"e\u0301\u0327", "e\u0327\u0301", "\u00E9\u0327"},
		{"e\u0327\u0301", "e\u0327\u0301", "\u00E9\u0327"},
		{"e\xFF\u0301", "e\xFF\u0301", "e\xFF\u0301"},
		{"a\u0302\u0301", "a\u0302\u0301", "\u1EA5"},
		{"a\u0301\u0302", "a\u0301\u0302", "\u00E1\u0302"},
		{"\u00E1\u0302", "a\u0301\u0302", "\u00E1\u0302"},
		{"a\u0323\u0302\u0301", "a\u0323\u0302\u0301", "\u1EA5\u0323"},
		{"\u1EA5\u0323", "a\u0323\u0302\u0301", "\u1EA5\u0323"},
		{"\u1100\u1161\u11A8", "\u1100\u1161\u11A8", "\uAC01"},
		{"\u1100\u1161a\u11A8", "\u1100\u1161a\u11A8", "\uAC00a\u11A8"},
		{"\uAC00\u11A8", "\u1100\u1161\u11A8", "\uAC01"},
		{"\u1100\u0334\u1161", "\u1100\u0334\u1161", "\u1100\u0334\u1161"},
		{"\uAC00\u0334\u11A8", "\u1100\u1161\u0334\u11A8", "\uAC00\u0334\u11A8"},
		{"\uAC01\u11A8", "\u1100\u1161\u11A8\u11A8", "\uAC01\u11A8"},
		{"\u212B", "A\u030A", "\u00C5"}, {"\u212A", "K", "K"}, {"\u2126\u0301", "\u03A9\u0301", "\u038F"}, {"\u212A\u0327", "K\u0327", "\u0136"},
		{"e\u0301\u0328", "e\u0328\u0301", "\u0119\u0301"},
		{"\u0301e", "\u0301e", "\u0301e"}, {"\u0301\u0327", "\u0327\u0301", "\u0327\u0301"}, {"\u0301", "\u0301", "\u0301"},
		{"e\u034F\u0301", "e\u034F\u0301", "e\u034F\u0301"},
		{"e\u0300\u0301", "e\u0300\u0301", "\u00E8\u0301"}, {"e\u035B\u0301", "e\u035B\u0301", "e\u035B\u0301"},
		{"\u304B\u0334\u3099", "\u304B\u0334\u3099", "\u304C\u0334"}, {"\u304B\u3099\u3099", "\u304B\u3099\u3099", "\u304C\u3099"}, {"\u30CF\u309A", "\u30CF\u309A", "\u30D1"},
		{"\xCC\u0301\x81", "\xCC\u0301\x81", "\xCC\u0301\x81"}, {"e\xCC\x81", "e\u0301", "\u00E9"}, {"\uFFFD\u0301", "\uFFFD\u0301", "\uFFFD\u0301"}, {"\x00\u0301", "\x00\u0301", "\x00\u0301"}, {"\xED\xA0\x80", "\xED\xA0\x80", "\xED\xA0\x80"},
		{"\U0001F469\u0301", "\U0001F469\u0301", "\U0001F469\u0301"},
	} {
		if got := norm.Apart(x[0]); got != x[1] {
			t.Errorf("Apart(%+q) = %+q, not %+q", x[0], got, x[1])
		}
		if got := norm.Together(x[0]); got != x[2] {
			t.Errorf("Together(%+q) = %+q, not %+q", x[0], got, x[2])
		}
	}
}

// Each letter of the tables, as a text by itself: what is taken apart is put together again, but for the singles.
func TestFormsOfEachLetter(t *testing.T) {
	for r := range modelPairs() {
		s := string([]rune{r})
		if got := norm.Apart(s); got != string(splitOf(r)) {
			t.Errorf("Apart(%+q) = %+q", s, got)
		}
		if got := norm.Together(norm.Apart(s)); got != s {
			t.Errorf("Together(Apart(%+q)) = %+q", s, got)
		}
	}
}

func TestFormsOfLongTexts(t *testing.T) {
	const n = 1 << 17
	for _, x := range [][3]string{
		{"e" + strings.Repeat("\u0301\u0327", n), "e" + strings.Repeat("\u0327", n) + strings.Repeat("\u0301", n), "\u00E9" + strings.Repeat("\u0327", n) + strings.Repeat("\u0301", n-1)},
		{strings.Repeat("\u00E9", n), strings.Repeat("e\u0301", n), strings.Repeat("\u00E9", n)},
		{strings.Repeat("\xFF", n), strings.Repeat("\xFF", n), strings.Repeat("\xFF", n)},
		{strings.Repeat("\u1100\u1161\u11A8", n), strings.Repeat("\u1100\u1161\u11A8", n), strings.Repeat("\uAC01", n)},
	} {
		if norm.Apart(x[0]) != x[1] || norm.Together(x[0]) != x[2] {
			t.Errorf("the forms of a long text that begins with %+q", x[0][:8])
		}
	}
}

func TestSame(t *testing.T) {
	for _, x := range []struct {
		a, b string
		want bool
	}{
		{"\u00E9", "e\u0301", true}, {"e\u0301\u0327", "e\u0327\u0301", true}, {"a", "b", false}, {"\xFF", "\uFFFD", false},
		{"", "", true}, {"", "a", false}, {"e\u0301\u0300", "e\u0300\u0301", false}, {"\u212B", "\u00C5", true}, {"\u212B", "A\u030A", true}, {"\xFF", "\xFE", false}, {"\xFF", "\xFF", true},
		{"\uAC01", "\u1100\u1161\u11A8", true}, {"\uAC01", "\uAC00\u11A8", true}, {"a", "A", false}, {"a\u0301", "a", false}, {"A", "\u0391", false},
	} {
		if got := norm.Same(x.a, x.b); got != x.want {
			t.Errorf("Same(%+q, %+q) = %v", x.a, x.b, got)
		}
	}
}
