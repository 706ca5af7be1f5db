package visual_test

import (
	"math"
	"slices"
	"strings"
	"testing"

	"shuttle/api"
	"shuttle/class"
	"shuttle/visual"
)

// signs are the characters that stand in these tests for others: one for each class.
var signs = map[rune]rune{
	'R': 0x5D0, 'J': 0x5D1, 'A': 0x627, '6': 0x660, '*': 0x301, '~': 0x200B, '|': 0x2029, '_': 9,
	'<': 0x202A, '>': 0x202B, 'o': 0x202D, 'O': 0x202E, '^': 0x202C, 'i': 0x2066, 'I': 0x2067, 'F': 0x2068, 'p': 0x2069,
}

// all are characters of all classes, and brackets.
const all = "aRA1+$6,*~|_ !<>oO^iIFp()[]"

// text is the characters of s, with those that they stand for.
func text(s string) (l []rune) {
	for _, r := range s {
		if sign, ok := signs[r]; ok {
			r = sign
		}
		l = append(l, r)
	}
	return l
}

// digits are the levels as digits.
func digits(levels []uint8) (s string) {
	for _, level := range levels {
		s += string(rune('0' + level))
	}
	return s
}

// lists hands out l and all lists that have up to n of the things behind it. What is handed out is not kept.
func lists[T any](l, of []T, n int, f func(l []T)) {
	f(l)
	if n == 0 {
		return
	}
	for _, c := range of {
		lists(append(l, c), of, n-1, f)
	}
}

func checkLevels(t *testing.T, l []rune, want int8) {
	t.Helper()
	got, base := visual.Levels(l, want)
	if levels, b := levelsOf(l, want); base != b || !slices.Equal(got, levels) {
		t.Errorf("Levels(%x, %d) = %v, %d, not %v, %d", l, want, got, base, levels, b)
	}
}

func checkRow(t *testing.T, l []rune, levels []uint8, base uint8, from, to int) {
	t.Helper()
	if got, want := visual.Row(l, levels, base, from, to), rowOf(l, levels, base, from, to); !slices.Equal(got, want) {
		t.Errorf("Row(%x, %v, %d, %d, %d) = %v, not %v", l, levels, base, from, to, got, want)
	}
}

func checkOrder(t *testing.T, levels []uint8) {
	t.Helper()
	if got, want := visual.Order(levels), orderOf(levels); !slices.Equal(got, want) {
		t.Errorf("Order(%v) = %v, not %v", levels, got, want)
	}
}

// P10.1

func TestLevelsExamples(t *testing.T) {
	for _, x := range []struct {
		s      string
		want   int8
		levels string
		base   uint8
	}{
		{"ab", api.WantAuto, "00", 0}, {"RJ", api.WantAuto, "11", 1}, {"aRJb", api.WantAuto, "0110", 0}, {"R12", api.WantAuto, "122", 1}, {"a12", api.WantAuto, "000", 0}, {"R6", api.WantAuto, "12", 1}, {"a R", api.WantLeft, "001", 0}, {"R a", api.WantAuto, "112", 1}, {"a(R)", api.WantLeft, "0010", 0}, {"a>R^b", api.WantAuto, "00110", 0},
		{"", api.WantAuto, "", 0}, {"", api.WantRight, "", 1}, {"", api.WantLeft, "", 0}, {"a", api.WantRight, "2", 1}, {"R", api.WantLeft, "1", 0}, {"A", 77, "1", 1},
		// Digits and signs, by what stands ahead; at the beginning by sos.
		{"A1", api.WantAuto, "12", 1}, {"aA1", api.WantAuto, "012", 0}, {"R1,2", api.WantAuto, "1222", 1}, {"R1,a", api.WantAuto, "1212", 1}, {"a6", api.WantAuto, "02", 0}, {"6", api.WantAuto, "2", 0}, {"1", api.WantAuto, "0", 0}, {"1", api.WantRight, "2", 1}, {"$1", api.WantRight, "22", 1}, {"R$", api.WantAuto, "11", 1}, {"R*", api.WantLeft, "11", 0}, {"*R", api.WantLeft, "01", 0}, {"*a", api.WantRight, "12", 1},
		// What has no direction, by both sides.
		{"R!R", api.WantLeft, "111", 0}, {"R!a", api.WantLeft, "100", 0}, {"R!a", api.WantRight, "112", 1}, {"a!a", api.WantRight, "222", 1}, {"!R", api.WantLeft, "01", 0}, {"R!", api.WantLeft, "10", 0}, {"a!", api.WantRight, "21", 1},
		// What is embedded and what is said over; the sides are those of the greater level.
		{"aOab^c", api.WantAuto, "001110", 0}, {"RoRR^R", api.WantAuto, "112221", 1}, {"a>1^b", api.WantAuto, "00220", 0}, {"R<1^R", api.WantAuto, "11221", 1}, {"R<!^R", api.WantAuto, "11221", 1}, {"a>!^b", api.WantAuto, "00110", 0}, {"!>R^!", api.WantAuto, "11331", 1}, {"!>R^!", api.WantLeft, "00110", 0},
		{"O1^", api.WantLeft, "011", 0}, {"Oa(b)^", api.WantLeft, "011111", 0},
		// Isolates: their signs are of what stands around them.
		{"aIRpb", api.WantAuto, "00100", 0}, {"RiapR", api.WantAuto, "11211", 1}, {"aFRpb", api.WantAuto, "00100", 0}, {"IRp", api.WantAuto, "010", 0}, {"aIR", api.WantAuto, "001", 0}, {"aI1pR", api.WantAuto, "00201", 0}, {"RIapR", api.WantLeft, "11211", 0}, {"RiRpa", api.WantLeft, "10300", 0},
		// Within what is said over too a sign and its PDI are of one run.
		{"oRIapR^", api.WantLeft, "0224222", 0}, {"oIRp^", api.WantRight, "12322", 1},
		// Brackets.
		{"R(a)R", api.WantLeft, "10001", 0}, {"R(R)a", api.WantLeft, "11110", 0}, {"R(a)R", api.WantAuto, "11211", 1}, {"a(1)", api.WantRight, "2222", 1}, {"a(Ia)p)b", api.WantLeft, "00021000", 0},
		// What is left out has the level of what stands ahead.
		{"R~1", api.WantAuto, "112", 1}, {"~R", api.WantLeft, "01", 0}, {"~a", api.WantRight, "12", 1}, {"R~~<>^", api.WantLeft, "111111", 0}, {"a~", api.WantRight, "22", 1}, {"R1~", api.WantLeft, "122", 0}, {"1~R", api.WantRight, "221", 1}, {"~", api.WantRight, "1", 1},
		// Paragraphs: nothing goes from one to the other; B has the base.
		{"R|a", api.WantAuto, "112", 1}, {"a|R", api.WantAuto, "001", 0}, {"R|1", api.WantLeft, "100", 0}, {"(R|)R", api.WantLeft, "01001", 0}, {"R|~R", api.WantLeft, "1001", 0}, {"a|~a", api.WantRight, "2112", 1}, {"R|R", api.WantLeft, "101", 0}, {"a|a", api.WantRight, "212", 1}, {"IR|Rp", api.WantLeft, "01010", 0}, {">R|R^", api.WantLeft, "01011", 0}, {"||", api.WantRight, "11", 1}, {"R |", api.WantLeft, "100", 0}, {"a!|", api.WantRight, "211", 1}, {"|R", api.WantAuto, "01", 0}, {"6|", api.WantLeft, "20", 0},
		// A row's parts are Row's.
		{"R_R", api.WantLeft, "111", 0}, {"a_a", api.WantRight, "222", 1},
	} {
		got, base := visual.Levels(text(x.s), x.want)
		if digits(got) != x.levels || base != x.base {
			t.Errorf("Levels(%s, %d) = %s, %d, not %s, %d", x.s, x.want, digits(got), base, x.levels, x.base)
		}
	}
}

func TestTheGreatestLevels(t *testing.T) {
	for _, x := range []struct {
		signs  string
		l      string
		levels []uint8
	}{
		{strings.Repeat("><", 62), "aR1A16", []uint8{124, 125, 126, 125, 126, 126}},
		{strings.Repeat("><", 62) + ">", "aR1", []uint8{126, 125, 126}},
		{strings.Repeat("><", 62) + "><>I", "aR1", []uint8{126, 125, 126}},
		{strings.Repeat("Ii", 62) + "I", "aR1", []uint8{126, 125, 126}},
		{strings.Repeat("Oo", 62), "aR1", []uint8{124, 124, 124}},
		{strings.Repeat("Oo", 62) + "O", "aR1", []uint8{125, 125, 125}},
	} {
		l := text(x.signs + x.l)
		got, _ := visual.Levels(l, api.WantLeft)
		if !slices.Equal(got[len(x.signs):], x.levels) {
			t.Errorf("behind %d signs: %v, not %v", len(x.signs), got[len(x.signs):], x.levels)
		}
		checkLevels(t, l, api.WantLeft)
		checkLevels(t, l, api.WantRight)
	}
}

// wants are the directions that may be wanted.
var wants = []int8{api.WantAuto, api.WantLeft, api.WantRight}

func TestLevelsOfShortLists(t *testing.T) {
	lists(nil, text(all), 3, func(l []rune) {
		for _, want := range wants {
			checkLevels(t, l, want)
		}
	})
	lists(nil, text("aR1|~Ip^O"), 5, func(l []rune) { checkLevels(t, l, api.WantRight) })
	lists(nil, text("aR1 |>~Ip(*"), 4, func(l []rune) { checkLevels(t, l, api.WantLeft) })
}

func TestLevelsOfEveryWant(t *testing.T) {
	for want := math.MinInt8; want <= math.MaxInt8; want++ {
		for _, s := range []string{"a1R", "R1a", "1|R", "", "IRpa"} {
			checkLevels(t, text(s), int8(want))
		}
	}
}

func TestLevelsOfEveryCharacter(t *testing.T) {
	// Each stands in a paragraph of its own, that many may be asked for at once.
	ask := func(from, to rune) {
		var l []rune
		for r := from; r < to; r++ {
			l = append(l, 'a', r, 0x5D0, '1', r, r, 0x5D0, 0x202A, r, 0x301, 0x2029)
		}
		for _, want := range wants {
			got, base := visual.Levels(l, want)
			if levels, b := levelsOf(l, want); base != b || !slices.Equal(got, levels) {
				t.Errorf("from %x to %x, %d: the levels are others", from, to, want)
			}
		}
	}
	ask(-3, 0x1000)
	ask(0x2000, 0x2100)
	ask(0xD7F0, 0xE010)
	ask(0xFB00, 0x10A00)
	ask(0x10FFF0, 0x110003)
	ask(math.MaxInt32-3, math.MaxInt32)
	ask(math.MinInt32, math.MinInt32+3)
}

// P10.2

func TestRowExamples(t *testing.T) {
	one := []uint8{1, 1, 1, 1, 1, 1, 1, 1}
	for _, x := range []struct {
		s        string
		levels   []uint8
		base     uint8
		from, to int
		row      []uint8
	}{
		{"a  ", one, 0, 0, 3, []uint8{1, 0, 0}}, {"R_R", one, 0, 0, 3, []uint8{1, 0, 1}}, {"ab", one[:2], 0, 1, 99, []uint8{1}}, {"ab", one, 0, 2, 1, nil}, {"", nil, 0, 0, 0, nil},
		{"R |R", one, 0, 0, 4, []uint8{1, 0, 0, 1}}, {"R _ R", one, 0, 0, 5, []uint8{1, 0, 0, 1, 1}}, {" R ", one, 0, 0, 3, []uint8{1, 1, 0}},
		// All that goes along, and what does not.
		{"R iIFp~<_", one, 0, 0, 9, []uint8{1, 0, 0, 0, 0, 0, 0, 0}}, {"RoO<>^~ |", append(one, 1), 0, 0, 9, []uint8{1, 0, 0, 0, 0, 0, 0, 0, 0}}, {"R*_", one, 0, 0, 3, []uint8{1, 1, 0}}, {"R,", one, 0, 0, 2, []uint8{1, 1}}, {" ! ", one, 0, 0, 3, []uint8{1, 1, 0}}, {"   ", one, 2, 0, 3, []uint8{2, 2, 2}}, {"  _a", one, 2, 0, 4, []uint8{2, 2, 2, 1}},
		// What stands behind the row, and ahead of it, is not asked.
		{"R  _", one, 0, 0, 2, []uint8{1, 0}}, {"R  R", one, 0, 0, 3, []uint8{1, 0, 0}}, {"R _R", one, 0, 1, 4, []uint8{0, 0, 1}}, {"R R", one, 0, 1, 3, []uint8{1, 1}},
		// From and to are brought into what there is.
		{"RR", []uint8{1, 3}, 0, -5, 1, []uint8{1}}, {"RR", []uint8{1, 3}, 0, math.MinInt, math.MaxInt, []uint8{1, 3}}, {"RR", []uint8{1, 3}, 0, math.MaxInt, math.MinInt, nil}, {"RR", []uint8{1, 3}, 0, 2, 2, nil}, {"RR", []uint8{1, 3}, 0, 1, 1, nil}, {"RR", []uint8{1, 3}, 0, -9, -8, nil}, {"RR", []uint8{1, 3}, 0, 7, 9, nil},
		// Of lists of unlike lengths as many count as the shorter one has: its end is the row's, at most.
		{"R R", []uint8{1, 1}, 0, 0, 3, []uint8{1, 0}}, {"R ", []uint8{1, 1, 1}, 0, 0, 3, []uint8{1, 0}}, {"R ", nil, 0, 0, 2, nil}, {"", one, 0, 0, 2, nil},
		// Levels and bases that are too great.
		{"aa a ", []uint8{126, 127, 128, 255, 254}, 255, 0, 5, []uint8{126, 126, 126, 126, 126}}, {"a ", []uint8{125, 7}, 127, 0, 2, []uint8{125, 126}}, {"a ", []uint8{126, 7}, 125, 0, 2, []uint8{126, 125}},
	} {
		if got := visual.Row(text(x.s), x.levels, x.base, x.from, x.to); !slices.Equal(got, x.row) {
			t.Errorf("Row(%s, %v, %d, %d, %d) = %v, not %v", x.s, x.levels, x.base, x.from, x.to, got, x.row)
		}
	}
}

func TestRowOfShortLists(t *testing.T) {
	levels := []uint8{3, 4, 5, 6, 7}
	lists(nil, text(all), 3, func(l []rune) {
		for from := -1; from <= len(l)+1; from++ {
			for to := -1; to <= len(l)+1; to++ {
				checkRow(t, l, levels, 1, from, to)
			}
		}
	})
	lists(nil, text("a |_p"), 5, func(l []rune) {
		for n := range levels {
			checkRow(t, l, levels[:n], 1, 1, 4)
			checkRow(t, l, levels[:n], 1, 0, 9)
		}
	})
}

func TestRowOfEveryCharacter(t *testing.T) {
	levels := []uint8{5, 6, 7}
	for r := rune(-2); r <= 0x110001; r++ {
		checkRow(t, []rune{'a', r}, levels, 2, 0, 2)
		checkRow(t, []rune{r, 9, r}, levels, 2, 0, 2)
		checkRow(t, []rune{r, 'a'}, levels, 2, 0, 2)
		checkRow(t, []rune{' ', r, 'a'}, levels, 2, 0, 3)
	}
}

func TestRowOfEveryLevel(t *testing.T) {
	for level := range 256 {
		for base := range 256 {
			checkRow(t, []rune("ab "), []uint8{uint8(level), 1, uint8(level)}, uint8(base), 0, 3)
		}
	}
}

// P10.3

func TestOrderExamples(t *testing.T) {
	for _, x := range []struct {
		levels []uint8
		order  []int
	}{
		{[]uint8{0, 1, 1, 0}, []int{0, 2, 1, 3}}, {[]uint8{1, 2, 2, 1}, []int{3, 1, 2, 0}}, {[]uint8{0, 1, 2, 1, 0}, []int{0, 3, 2, 1, 4}}, {nil, nil},
		{[]uint8{0, 0, 0}, []int{0, 1, 2}}, {[]uint8{1, 1, 1}, []int{2, 1, 0}}, {[]uint8{2, 2}, []int{0, 1}}, {[]uint8{3, 3}, []int{1, 0}}, {[]uint8{0}, []int{0}}, {[]uint8{7}, []int{0}},
		// Levels that are not there count too: from 2 to 0 two turnings go, from 3 to 1 two, from 3 to 0 three.
		{[]uint8{0, 2, 2, 0}, []int{0, 1, 2, 3}}, {[]uint8{0, 3, 3, 0}, []int{0, 2, 1, 3}}, {[]uint8{1, 3, 3, 1}, []int{3, 2, 1, 0}}, {[]uint8{1, 4, 4, 1}, []int{3, 1, 2, 0}},
		{[]uint8{1, 0, 1}, []int{0, 1, 2}}, {[]uint8{1, 1, 0, 1, 1}, []int{1, 0, 2, 4, 3}}, {[]uint8{2, 1, 2, 2}, []int{2, 3, 1, 0}},
		// Above 126 is 126.
		{[]uint8{127, 200}, []int{0, 1}}, {[]uint8{126, 127}, []int{0, 1}}, {[]uint8{125, 255, 255}, []int{1, 2, 0}}, {[]uint8{125, 125}, []int{1, 0}}, {[]uint8{128, 126, 125}, []int{2, 0, 1}},
	} {
		if got := visual.Order(x.levels); !slices.Equal(got, x.order) {
			t.Errorf("Order(%v) = %v, not %v", x.levels, got, x.order)
		}
	}
}

func TestOrderOfShortLists(t *testing.T) {
	lists(nil, []uint8{0, 1, 2, 3}, 7, func(levels []uint8) { checkOrder(t, levels) })
	lists(nil, []uint8{0, 1, 2, 3, 5, 126, 127, 255}, 4, func(levels []uint8) { checkOrder(t, levels) })
}

func TestOrderOfEveryLevel(t *testing.T) {
	for a := range 256 {
		checkOrder(t, []uint8{uint8(a), uint8(a)})
		for b := range 256 {
			checkOrder(t, []uint8{uint8(a), uint8(b), uint8(b)})
		}
	}
}

// P10.4

func TestTurnedExamples(t *testing.T) {
	for _, x := range []struct{ order, turned []int }{
		{[]int{3, 1, 2, 0}, []int{3, 1, 2, 0}}, {[]int{1, 2, 0}, []int{2, 0, 1}}, {[]int{0, 0}, nil}, {[]int{1, 2}, nil}, {nil, nil}, {[]int{0}, []int{0}}, {[]int{1}, nil}, {[]int{-1}, nil}, {[]int{-1, 0}, nil}, {[]int{1, 1}, nil}, {[]int{0, 1, 1}, nil}, {[]int{0, 1, 3}, nil}, {[]int{math.MinInt, 0}, nil}, {[]int{0, math.MaxInt}, nil}, {[]int{1 << 32, 1}, nil},
	} {
		if got := visual.Turned(x.order); !slices.Equal(got, x.turned) {
			t.Errorf("Turned(%v) = %v, not %v", x.order, got, x.turned)
		}
	}
}

func TestTurnedOfShortLists(t *testing.T) {
	lists(nil, []int{-1, 0, 1, 2, 3, 4, 5}, 5, func(order []int) {
		if got, want := visual.Turned(order), turnedOf(order); !slices.Equal(got, want) {
			t.Errorf("Turned(%v) = %v, not %v", order, got, want)
		}
	})
}

// P10.5

func TestMirroredExamples(t *testing.T) {
	for _, x := range []struct {
		r     rune
		level uint8
		want  rune
	}{
		{'(', 1, ')'}, {'(', 2, '('}, {'a', 1, 'a'}, {')', 125, '('}, {'<', 3, '>'}, {'<', 0, '<'}, {0x2265, 1, 0x2264}, {0x5D0, 1, 0x5D0}, {'[', 127, ']'}, {'[', 126, '['}, {'[', 255, ']'}, {'[', 254, '['}, {-1, 1, -1}, {-1, 0, -1}, {0x110000, 1, 0x110000}, {0xD800, 2, 0xD800},
	} {
		if got := visual.Mirrored(x.r, x.level); got != x.want {
			t.Errorf("Mirrored(%x, %d) = %x, not %x", x.r, x.level, got, x.want)
		}
	}
}

func TestMirroredOfEveryCharacter(t *testing.T) {
	for r := rune(-2); r <= 0x110001; r++ {
		for _, level := range []uint8{0, 1, 2, 255} {
			if got := visual.Mirrored(r, level); got != mirroredOf(r, level) {
				t.Errorf("Mirrored(%x, %d) = %x", r, level, got)
			}
		}
	}
	for level := range 256 {
		for _, r := range "(>a\u00AB" {
			if got := visual.Mirrored(r, uint8(level)); got != mirroredOf(r, uint8(level)) {
				t.Errorf("Mirrored(%x, %d) = %x", r, level, got)
			}
		}
	}
}

// P10.8

func TestMirroredTwice(t *testing.T) {
	for r := rune(-2); r <= 0x110001; r++ {
		if other := class.Mirror(r); class.Mirror(other) == r && visual.Mirrored(visual.Mirrored(r, 7), 7) != r {
			t.Errorf("%x, mirrored twice, is something else", r)
		}
	}
}
