package show_test

import (
	"math"
	"strings"
	"testing"

	"shuttle/api"
	"shuttle/show"
)

// numbers is one more than the last character.
const numbers = 0x110000

// kinds are one character, or bad byte, for each thing that the chapter tells apart.
var kinds = []string{
	"a", "\u0301", "\uFE0F", "\u200C", "\u200D", "\t", "\r", "\n", "\x01", "\x7F", "\u0085", "\u2028", "\u202E", "\uFEFF", " ",
	"\u4E16", "\u03B1", "\u00A9", "\u00AE", "\u2600", "\u231A", "\U0001F1E6", "\U0001F469", "\u1100", "\u1161", "\u11A8", "\uAC00", "\uFFFD", "\xFF", "\x80",
}

// few are such that much follows from how they stand.
var few = []string{"a", "\u0301", "\t", "\n", "\u4E16", "\u202E", "\U0001F1E6", "\u1161", "\xFF"}

// looks are one for each thing that a look tells, alone and together.
var looks = []api.Look{
	{}, {Wide: true}, {Raw: true}, {Wide: true, Raw: true}, {Tab: 1}, {Tab: 3}, {Tab: 4, Raw: true}, {Tab: 16}, {Tab: 17}, {Tab: -1},
	{Want: api.WantRight, Join: true}, {Tab: 5, Wide: true, Want: api.WantLeft, Join: true, Raw: true}, {Want: -128},
}

// columns are such at which something begins anew, and the least and the greatest.
var columns = []int{0, 1, 3, 4, 7, 8, 9, 15, 16, 17, 1000, 1 << 62, math.MaxInt - 8, math.MaxInt - 7, math.MaxInt - 1, math.MaxInt, -1, -3, -8, math.MinInt, math.MinInt + 1}

// texts hands out s and all texts that have up to n of the parts behind it.
func texts(s string, parts []string, n int, f func(s string)) {
	f(s)
	if n == 0 {
		return
	}
	for _, part := range parts {
		texts(s+part, parts, n-1, f)
	}
}

func checkText(t *testing.T, c string, col int, l api.Look) {
	t.Helper()
	want, columns := textOf(c, col, l)
	if got, n := show.Text(c, col, l); got != want || n != columns {
		t.Errorf("Text(%+q, %d, %+v) = %+q, %d, not %+q, %d", c, col, l, got, n, want, columns)
	}
}

func checkWide(t *testing.T, s string, col int, l api.Look) {
	t.Helper()
	if got, want := show.Wide(s, col, l), wideOf(s, col, l); got != want {
		t.Errorf("Wide(%+q, %d, %+v) = %d, not %d", s, col, l, got, want)
	}
}

// P6.1

func TestTextExamples(t *testing.T) {
	zero, raw, wide := api.Look{}, api.Look{Raw: true}, api.Look{Wide: true}
	blanks := strings.Repeat(" ", 16)
	for _, x := range []struct {
		c     string
		col   int
		l     api.Look
		shown string
		wide  int
	}{
		{"", 0, zero, "", 0}, {"", 3, raw, "", 0}, {"", -1, wide, "", 0},
		{"\xFF", 0, zero, "<ff>", 4}, {"\xC3", 5, raw, "<c3>", 4}, {"\x80", 0, zero, "<80>", 4}, {"\xE4\xB8", 0, zero, "<e4>", 4}, {"\xEF\xBF\xBD", 0, zero, "\uFFFD", 1},
		{"\t", 0, zero, blanks[:8], 8}, {"\t", 5, zero, blanks[:3], 3}, {"\t", 7, zero, " ", 1}, {"\t", 8, zero, blanks[:8], 8}, {"\t", 5, api.Look{Tab: 4}, blanks[:3], 3},
		{"\t", -3, api.Look{Tab: 99}, blanks[:8], 8}, {"\t", 0, api.Look{Tab: 16}, blanks, 16}, {"\t", 3, api.Look{Tab: 17}, blanks[:5], 5}, {"\t", 3, api.Look{Tab: 1}, " ", 1},
		{"\t", 3, api.Look{Tab: -2}, blanks[:5], 5}, {"\t", math.MaxInt, zero, " ", 1}, {"\t", math.MinInt, zero, blanks[:8], 8},
		{"\t\u0301", 0, zero, blanks[:8], 8}, {"\t\t", 0, zero, blanks[:8], 8},
		{"\n", 0, zero, "", 0}, {"\r\n", 0, zero, "", 0}, {"\n", 0, raw, "", 0}, {"\r\n", 0, raw, "", 0}, {"\r", 0, zero, "^M", 2}, {"\r\r\n", 0, zero, "^M", 2},
		{"\x7F", 0, zero, "^?", 2}, {"\x00", 0, zero, "^@", 2}, {"\x1F", 0, raw, "^_", 2}, {"\x1B[0m", 0, zero, "^[", 2}, {"\x0B", 0, zero, "^K", 2}, {"\x0C", 0, zero, "^L", 2},
		{"\u202E", 0, zero, "", 0}, {"\u202E", 0, raw, "<202e>", 6}, {"\u0085", 0, raw, "<0085>", 6}, {"\u0080", 0, zero, "", 0}, {"\u009F", 0, raw, "<009f>", 6}, {"\uFEFF", 0, raw, "<feff>", 6},
		{"\u2028", 0, zero, "", 0}, {"\u2029", 0, raw, "<2029>", 6}, {"\u00AD", 0, raw, "<00ad>", 6}, {"\u200B", 0, zero, "", 0}, {"\u200B\u0301", 0, raw, "<200b>", 6},
		{"\u0301", 0, zero, "\u25CC\u0301", 1}, {"\u200D", 0, zero, "\u25CC\u200D", 1}, {"\u200C\u0301", 0, raw, "\u25CC\u200C\u0301", 1}, {"\uFE0F", 0, wide, "\u25CC\uFE0F", 1},
		{"a\u0301b", 0, zero, "a\u0301", 1}, {" \u0301", 0, zero, " \u0301", 1}, {"\u25CC\u0301", 0, zero, "\u25CC\u0301", 1}, {"a\u200D", 0, raw, "a\u200D", 1},
		{"\u4E16", 0, zero, "\u4E16", 2}, {"\u03B1", 0, zero, "\u03B1", 1}, {"\u03B1", 0, wide, "\u03B1", 2}, {"\u25CC", 0, wide, "\u25CC", 1}, {"\u25CB", 0, wide, "\u25CB", 2}, {"\u3000", 0, zero, "\u3000", 2}, {"\U000F0000", 0, zero, "\U000F0000", 1},
		{"\U0001F1E6\U0001F1E7", 0, zero, "\U0001F1E6\U0001F1E7", 2}, {"\U0001F1E6", 0, zero, "\U0001F1E6", 1}, {"\U0001F1E6\u0301\U0001F1E7", 0, zero, "\U0001F1E6\u0301", 1},
		{"\U0001F1E6\U0001F1E7\u0301", 0, zero, "\U0001F1E6\U0001F1E7\u0301", 2}, {"\U0001F1E6\uFE0F", 0, zero, "\U0001F1E6\uFE0F", 2},
		{"\u2600\uFE0F", 0, zero, "\u2600\uFE0F", 2}, {"\u2600", 0, zero, "\u2600", 1}, {"\u2600\u0301\uFE0F", 0, zero, "\u2600\u0301\uFE0F", 1}, {"\u231A\uFE0F", 0, zero, "\u231A\uFE0F", 2},
		{"\u00AE\uFE0F", 0, zero, "\u00AE\uFE0F", 2}, {"\u00AE\uFE0F", 0, wide, "\u00AE\uFE0F", 2}, {"a\uFE0F", 0, zero, "a\uFE0F", 1}, {"1\uFE0F", 0, zero, "1\uFE0F", 1}, {"\uFFFD\uFE0F", 0, zero, "\uFFFD\uFE0F", 2},
		{"\u1161", 0, zero, "", 0}, {"\u11A8\u0301", 0, raw, "", 0}, {"\u1161\u11A8a", 0, zero, "", 0}, {"\u1100\u1161\u11A8", 0, zero, "\u1100\u1161\u11A8", 2}, {"\uAC00\u11A8", 0, zero, "\uAC00\u11A8", 2},
		{"\U0001F469\u200D\U0001F4BB", 0, zero, "\U0001F469\u200D\U0001F4BB", 2}, {"\u05D0", 0, api.Look{Want: api.WantRight, Join: true}, "\u05D0", 1},
	} {
		if got, n := show.Text(x.c, x.col, x.l); got != x.shown || n != x.wide {
			t.Errorf("Text(%+q, %d, %+v) = %+q, %d, not %+q, %d", x.c, x.col, x.l, got, n, x.shown, x.wide)
		}
	}
}

func TestTextOfFullClusters(t *testing.T) {
	for _, mark := range []string{"\u0301", "\u200C", "\u200D", "\uFE0F"} {
		for _, n := range []int{1, 2, 30, 31, 32, 33, 64, 65} {
			want := "\u25CC" + strings.Repeat(mark, min(n, 31))
			if got, wide := show.Text(strings.Repeat(mark, n), 0, api.Look{}); got != want || wide != 1 {
				t.Errorf("%d times %+q: %+q, %d", n, mark, got, wide)
			}
			want = "a" + strings.Repeat(mark, min(n, 31))
			if got, wide := show.Text("a"+strings.Repeat(mark, n), 0, api.Look{}); got != want || wide != 1 {
				t.Errorf("a and %d times %+q: %+q, %d", n, mark, got, wide)
			}
		}
	}
}

func TestTextOfEveryCharacter(t *testing.T) {
	for r := range rune(numbers) {
		c := string(r)
		for _, l := range looks[:4] {
			checkText(t, c, 0, l)
			checkText(t, c+"\uFE0F\u0301", 9, l)
		}
		checkText(t, c+c, 2, looks[0])
		if t.Failed() {
			t.Fatalf("of %x", r)
		}
	}
}

func TestTextOfEveryByte(t *testing.T) {
	for b := range 0x100 {
		for _, c := range []string{string([]byte{byte(b)}), string([]byte{byte(b), 'a'}), string([]byte{byte(b), 0xCC, 0x81})} {
			checkText(t, c, 0, api.Look{})
			checkText(t, c, 0, api.Look{Raw: true})
		}
	}
}

func TestTabs(t *testing.T) {
	for _, stop := range []int{math.MinInt, -8, -1, 0, 1, 2, 3, 4, 5, 6, 7, 8, 9, 10, 11, 12, 13, 14, 15, 16, 17, 99, math.MaxInt} {
		for _, col := range columns {
			checkText(t, "\t", col, api.Look{Tab: stop})
		}
		for col := range 50 {
			checkText(t, "\ta", col, api.Look{Tab: stop})
		}
	}
}

func TestTextOfShortTexts(t *testing.T) {
	texts("", kinds, 3, func(s string) {
		for i, l := range looks {
			checkText(t, s, columns[i], l)
		}
	})
}

// P6.2

func TestWideExamples(t *testing.T) {
	zero := api.Look{}
	for _, x := range []struct {
		s    string
		col  int
		l    api.Look
		want int
	}{
		{"", 0, zero, 0}, {"", 5, zero, 0}, {"a\tb", 0, zero, 9}, {"\tb", 1, zero, 8}, {"ab\t\t", 0, zero, 16}, {"ab\t\t", 0, api.Look{Tab: 2}, 6},
		{"a\n\tb", 0, zero, 9}, {"\xFF\t", 0, zero, 8}, {"\x01\t", 7, zero, 9}, {"\u202E\t", 3, zero, 5}, {"\u202E\t", 3, api.Look{Raw: true}, 13},
		{"\u4E16a", 1 << 62, zero, 3}, {"a\t", math.MaxInt, zero, 9}, {"a\t", math.MaxInt, api.Look{Tab: 3}, 2}, {"aa\t", math.MaxInt - 1, api.Look{Tab: 5}, 4},
		{"\u03B1\t", 0, zero, 8}, {"\u03B1\u03B1", 0, api.Look{Wide: true}, 4}, {"a\t", -5, zero, 8}, {"a\t", math.MinInt, zero, 8}, {"a\t", -1, api.Look{Tab: 4}, 4},
	} {
		if got := show.Wide(x.s, x.col, x.l); got != x.want {
			t.Errorf("Wide(%+q, %d, %+v) = %d, not %d", x.s, x.col, x.l, got, x.want)
		}
	}
}

func TestWideOfShortTexts(t *testing.T) {
	texts("", kinds, 3, func(s string) {
		for i, l := range looks {
			checkWide(t, s, columns[i], l)
		}
	})
	texts("", few, 4, func(s string) {
		for i, l := range looks {
			checkWide(t, s, columns[len(columns)-1-i], l)
		}
	})
}

func TestWideAtEveryColumn(t *testing.T) {
	for _, s := range []string{"\t", "a\t", "\u4E16\t\xFF\t", "\n\t\u202E\ta\t\t"} {
		for _, l := range looks {
			for _, col := range columns {
				checkWide(t, s, col, l)
			}
		}
	}
}

// P6.3

func TestCutExamples(t *testing.T) {
	zero := api.Look{}
	for _, x := range []struct {
		s    string
		w    int
		l    api.Look
		want int
	}{
		{"", 0, zero, 0}, {"", -1, zero, 0}, {"", 9, zero, 0}, {"a\u4E16b", 2, zero, 1}, {"a\u4E16b", 3, zero, 4}, {"a\u0301", 1, zero, 3}, {"a\u0301", 0, zero, 0},
		{"a", -1, zero, 0}, {"a", math.MinInt, zero, 0}, {"a", math.MaxInt, zero, 1}, {"\u202Ea", 0, zero, 3}, {"\u202Ea", -1, zero, 0}, {"\u202Ea", 0, api.Look{Raw: true}, 0},
		{"ab", 9, zero, 2}, {"ab\n\u202E", 2, zero, 6}, {"a\n\nb", 1, zero, 3}, {"a\tb", 7, zero, 1}, {"a\tb", 8, zero, 2}, {"a\tb", 4, api.Look{Tab: 4}, 2}, {"a\xFFb", 4, zero, 1}, {"a\xFFb", 5, zero, 2},
		{"\u03B1\u03B1", 2, api.Look{Wide: true}, 2}, {"\u03B1\u03B1", 2, zero, 4}, {"\U0001F1E6\U0001F1E7", 1, zero, 0},
	} {
		if got := show.Cut(x.s, x.w, x.l); got != x.want {
			t.Errorf("Cut(%+q, %d, %+v) = %d, not %d", x.s, x.w, x.l, got, x.want)
		}
	}
}

func TestCutOfShortTexts(t *testing.T) {
	texts("", few, 3, func(s string) {
		for _, l := range []api.Look{{}, {Raw: true}, {Tab: 3, Wide: true}} {
			for w := -2; w <= wideOf(s, 0, l)+2; w++ {
				if got, want := show.Cut(s, w, l), cutOf(s, w, l); got != want {
					t.Errorf("Cut(%+q, %d, %+v) = %d, not %d", s, w, l, got, want)
				}
			}
		}
	})
}

func TestCutOfKinds(t *testing.T) {
	texts("", kinds, 2, func(s string) {
		for i, l := range looks {
			for _, w := range []int{0, 1, 2, i, math.MaxInt, math.MinInt} {
				if got, want := show.Cut(s, w, l), cutOf(s, w, l); got != want {
					t.Errorf("Cut(%+q, %d, %+v) = %d, not %d", s, w, l, got, want)
				}
			}
		}
	})
}

// P6.4

func TestPlainExamples(t *testing.T) {
	for _, x := range []struct{ s, want string }{
		{"", ""}, {"a\n\t\x80\u202E\r\n", "a^J^I<80><202e>^M^J"}, {"\n\n", "^J^J"}, {"\n\r", "^J^M"}, {"\r\r\n", "^M^M^J"}, {"\t\t", "^I^I"}, {"\x00\x1B\x7F", "^@^[^?"},
		{"\u0301\n\u0301", "\u25CC\u0301^J\u25CC\u0301"}, {"a\u0301\u200D", "a\u0301\u200D"}, {"\u0085\u2028\u2029\uFEFF", "<0085><2028><2029><feff>"}, {"\xE4\xB8\x96\xE4\xB8", "\u4E16<e4><b8>"},
		{"\u1161a\u11A8", "a"}, {"\uFFFD\xFF", "\uFFFD<ff>"}, {"\U0001F1E6\U0001F1E7", "\U0001F1E6\U0001F1E7"}, {"<ff>^I", "<ff>^I"},
	} {
		if got := show.Plain(x.s); got != x.want {
			t.Errorf("Plain(%+q) = %+q, not %+q", x.s, got, x.want)
		}
	}
}

func TestPlainOfShortTexts(t *testing.T) {
	texts("", kinds, 3, func(s string) {
		if got, want := show.Plain(s), plainOf(s); got != want {
			t.Errorf("Plain(%+q) = %+q, not %+q", s, got, want)
		}
	})
}

// What shows nothing may have kept two clusters apart that are one in what is shown, and more than one can hold: the words of P6.4 hold there, and what P6.6 says of Plain of it cannot.
func TestPlainWhereClustersComeTogether(t *testing.T) {
	marks := strings.Repeat("\u0301", 29)
	for _, x := range []struct{ ahead, behind string }{
		{"\U0001F469" + marks + "\u200D", "\U0001F469\u0301"}, {"\U0001F1E6", "\U0001F1E6" + marks + "\u0301\u0301"}, {strings.Repeat("\u1100", 31), "\uAC00\u0301"},
	} {
		s, want := x.ahead+"\u11A8"+x.behind, x.ahead+x.behind
		if got := show.Plain(s); got != want {
			t.Errorf("Plain(%+q) = %+q, not %+q", s, got, want)
		}
		if got := show.Plain(want); got == want {
			t.Errorf("Plain(%+q) is itself", want)
		}
	}
}
