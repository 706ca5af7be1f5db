package join_test

import (
	"math"
	"slices"
	"testing"

	"shuttle/api"
	"shuttle/join"
)

const (
	alone  = api.FormAlone
	first  = api.FormFirst
	middle = api.FormMiddle
	last   = api.FormLast
)

const (
	alef    = 0x627
	beh     = 0x628
	fathan  = 0x64B
	tatweel = 0x640
	joiner  = 0x200D
	parter  = 0x200C
)

// wrong is numbers that are no characters; some are a letter, if a part of their bits is taken for the whole.
var wrong = []rune{-1, -beh, -0x10000 + beh, math.MinInt32, math.MinInt32 + beh, math.MinInt32 + 0x620, 0xD800, 0xDBFF, 0xDC00, 0xDFFF, 0xD800 + beh, 0x110000, 0x110000 + beh, 0x200000 + beh, 0x1000000 + beh, 0x10000000 + 0xFE8F, math.MaxInt32}

// few are those of which the rules speak, some of each sort: letters, what letters are joined to, marks, others, shapes, and such as are no characters.
var few = []rune{alef, 0x622, 0x648, beh, 0x626, 0x64A, tatweel, joiner, fathan, 0x301, 'A', 0x621, parter, 0x63B, 0xFE8F, 0xFEFB, -1, 0xD800}

// five are one of each number that class.Join tells.
var five = []rune{'A', alef, beh, tatweel, fathan}

// lists hands out l and all lists that have up to n of the runes behind it. What is handed out is not kept.
func lists(l, runes []rune, n int, f func(l []rune)) {
	f(l)
	if n == 0 {
		return
	}
	for _, r := range runes {
		lists(append(l, r), runes, n-1, f)
	}
}

// everyList hands out all lists that are short.
func everyList(f func(l []rune)) {
	lists(nil, few, 4, f)
	lists(nil, five, 7, f)
}

// asked hands out every number from 0 to 10FFFF, and such as are no characters.
func asked(f func(r rune)) {
	for r := rune(-0x1000); r < 0x111000; r++ {
		f(r)
	}
	for _, r := range wrong {
		f(r)
	}
}

func checkForms(t *testing.T, l []rune) {
	t.Helper()
	if got, want := join.Forms(l), formsOf(l); !slices.Equal(got, want) {
		t.Errorf("Forms(%x) = %v, not %v", l, got, want)
	}
}

func checkShaped(t *testing.T, l []rune) {
	t.Helper()
	if got, want := join.Shaped(l), shapedOf(l); !slices.Equal(got, want) {
		t.Errorf("Shaped(%x) = %x, not %x", l, got, want)
	}
}

// P11.1

func TestFormsExamples(t *testing.T) {
	for _, x := range []struct {
		l    []rune
		want []int8
	}{
		{nil, nil}, {[]rune{}, nil}, {[]rune{beh}, []int8{alone}},
		{[]rune{beh, beh, beh}, []int8{first, middle, last}}, {[]rune{alef, beh}, []int8{alone, alone}}, {[]rune{beh, alef, beh}, []int8{first, last, alone}},
		{[]rune{beh, fathan, beh}, []int8{first, alone, last}}, {[]rune{beh, tatweel, 'A'}, []int8{first, alone, alone}}, {[]rune{joiner, alef}, []int8{alone, last}}, {[]rune{beh, parter, beh}, []int8{alone, alone, alone}},
		// What is joined behind alone, and what only takes what stands ahead.
		{[]rune{alef, alef}, []int8{alone, alone}}, {[]rune{alef, tatweel}, []int8{alone, alone}}, {[]rune{tatweel, beh, alef}, []int8{alone, middle, last}}, {[]rune{joiner, beh, joiner}, []int8{alone, middle, alone}}, {[]rune{tatweel, alef, tatweel}, []int8{alone, last, alone}},
		// Marks at the ends, and many of them.
		{[]rune{fathan, beh, 0x301, fathan}, []int8{alone, alone, alone, alone}}, {[]rune{fathan, fathan, beh, 0x301, fathan, 0xFE0F, beh, fathan, alef}, []int8{alone, alone, first, alone, alone, alone, middle, alone, last}}, {[]rune{fathan}, []int8{alone}},
		// No letter, a letter that does not join, a shape, and what is no character.
		{[]rune{beh, 0x621, beh}, []int8{alone, alone, alone}}, {[]rune{beh, 0xFE92, beh}, []int8{alone, alone, alone}}, {[]rune{beh, -1, beh}, []int8{alone, alone, alone}}, {[]rune{beh, 0xDFFF, beh}, []int8{alone, alone, alone}}, {[]rune{beh, 0x110000 + beh, beh}, []int8{alone, alone, alone}}, {[]rune{beh, 0x63F, beh}, []int8{alone, alone, alone}}, {[]rune{beh, ' ', beh, beh}, []int8{alone, alone, first, last}},
	} {
		if got := join.Forms(x.l); !slices.Equal(got, x.want) {
			t.Errorf("Forms(%x) = %v, not %v", x.l, got, x.want)
		}
	}
}

func TestFormsOfShortLists(t *testing.T) {
	everyList(func(l []rune) { checkForms(t, l) })
}

func TestFormsOfEveryNumber(t *testing.T) {
	asked(func(r rune) {
		checkForms(t, []rune{r})
		checkForms(t, []rune{beh, r, beh})
		checkForms(t, []rune{tatweel, r, fathan, alef})
	})
}

// P11.2

func TestShapeExamples(t *testing.T) {
	for _, x := range []struct {
		r    rune
		form int8
		want rune
	}{
		{beh, middle, 0xFE92}, {alef, first, 0xFE8D}, {0x621, last, 0xFE80}, {'A', last, 'A'}, {beh, 9, 0xFE8F},
		{beh, alone, 0xFE8F}, {beh, last, 0xFE90}, {beh, first, 0xFE91}, {beh, -1, 0xFE8F}, {beh, 4, 0xFE8F}, {beh, -128, 0xFE8F}, {beh, 127, 0xFE8F},
		{alef, alone, 0xFE8D}, {alef, last, 0xFE8E}, {alef, middle, 0xFE8E}, {alef, 4, 0xFE8D},
		{0x621, alone, 0xFE80}, {0x621, first, 0xFE80}, {0x621, middle, 0xFE80}, {0x621, 7, 0xFE80},
		{0x64A, middle, 0xFEF4}, {0x649, middle, 0xFEF0}, {0x63A, alone, 0xFECD}, {0x641, alone, 0xFED1},
		{0x620, middle, 0x620}, {0x63B, middle, 0x63B}, {tatweel, middle, tatweel}, {0x64B, last, 0x64B}, {0xFE8F, middle, 0xFE8F}, {0, first, 0}, {-1, first, -1}, {0xD800, last, 0xD800}, {0x110000, alone, 0x110000},
	} {
		if got := join.Shape(x.r, x.form); got != x.want {
			t.Errorf("Shape(%x, %d) = %x, not %x", x.r, x.form, got, x.want)
		}
	}
}

func TestShapeOfEveryNumber(t *testing.T) {
	check := func(r rune, form int8) {
		if got, want := join.Shape(r, form), shapeOf(r, form); got != want {
			t.Errorf("Shape(%x, %d) = %x, not %x", r, form, got, want)
		}
	}
	asked(func(r rune) {
		for form := int8(-1); form <= 4; form++ {
			check(r, form)
		}
	})
	for r := rune(0x600); r < 0x700; r++ {
		for form := range 256 {
			check(r, int8(form))
		}
	}
}

// P11.3

func TestShapedExamples(t *testing.T) {
	for _, x := range []struct{ l, want []rune }{
		{nil, nil}, {[]rune{}, nil}, {[]rune{0x644, alef}, []rune{0xFEDF, 0xFE8E}}, {[]rune{0x62D, beh}, []rune{0xFEA3, 0xFE90}},
		{[]rune{beh, fathan, beh, 'A', -1, 0x621}, []rune{0xFE91, fathan, 0xFE90, 'A', -1, 0xFE80}},
		{[]rune{0xFE91, beh, joiner, 0xFEFB, 0xD800}, []rune{0xFE91, 0xFE91, joiner, 0xFEFB, 0xD800}},
	} {
		if got := join.Shaped(x.l); !slices.Equal(got, x.want) {
			t.Errorf("Shaped(%x) = %x, not %x", x.l, got, x.want)
		}
	}
}

func TestShapedOfShortLists(t *testing.T) {
	everyList(func(l []rune) { checkShaped(t, l) })
}

func TestShapedOfEveryNumber(t *testing.T) {
	asked(func(r rune) {
		checkShaped(t, []rune{r})
		checkShaped(t, []rune{beh, r, beh})
		checkShaped(t, []rune{r, beh})
		checkShaped(t, []rune{joiner, r})
	})
}

// P11.4

func TestPlainExamples(t *testing.T) {
	for _, x := range []struct {
		r    rune
		want []rune
	}{
		{0xFE92, []rune{beh}}, {0xFEFB, []rune{0x644, alef}}, {'A', []rune{'A'}}, {-1, []rune{-1}},
		{0xFE80, []rune{0x621}}, {0xFE81, []rune{0x622}}, {0xFE82, []rune{0x622}}, {0xFEF4, []rune{0x64A}}, {0xFECD, []rune{0x63A}}, {0xFED0, []rune{0x63A}}, {0xFED1, []rune{0x641}},
		{0xFEF5, []rune{0x644, 0x622}}, {0xFEF6, []rune{0x644, 0x622}}, {0xFEF7, []rune{0x644, 0x623}}, {0xFEF8, []rune{0x644, 0x623}}, {0xFEF9, []rune{0x644, 0x625}}, {0xFEFA, []rune{0x644, 0x625}}, {0xFEFC, []rune{0x644, alef}},
		{0xFE7F, []rune{0xFE7F}}, {0xFEFD, []rune{0xFEFD}}, {beh, []rune{beh}}, {fathan, []rune{fathan}}, {0xD800, []rune{0xD800}}, {0x110000 + 0xFE92, []rune{0x110000 + 0xFE92}}, {math.MinInt32, []rune{math.MinInt32}}, {math.MaxInt32, []rune{math.MaxInt32}},
	} {
		if got := join.Plain(x.r); !slices.Equal(got, x.want) {
			t.Errorf("Plain(%x) = %x, not %x", x.r, got, x.want)
		}
	}
}

func TestPlainOfEveryNumber(t *testing.T) {
	asked(func(r rune) {
		if got, want := join.Plain(r), plainOf(r); !slices.Equal(got, want) {
			t.Errorf("Plain(%x) = %x, not %x", r, got, want)
		}
	})
}
