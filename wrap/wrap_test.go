package wrap_test

import (
	"math"
	"slices"
	"strings"
	"testing"

	"shuttle/api"
	"shuttle/class"
	"shuttle/wrap"
)

// check holds Rows and Count against the model.
func check(t *testing.T, line string, w int, look api.Look) {
	t.Helper()
	got, want := wrap.Rows(line, w, look), rows(line, w, look)
	if !slices.Equal(got, want) {
		t.Errorf("Rows(%+q, %d, %v) = %s, not %s", line, w, look, told(line, got), told(line, want))
	}
	if n := wrap.Count(line, w, look); n != len(want) {
		t.Errorf("Count(%+q, %d, %v) = %d, not %d", line, w, look, n, len(want))
	}
}

// example is a line, how it is laid out, and its rows as told.
type example struct {
	line string
	w    int
	look api.Look
	want string
}

// both holds Rows against what each example wants, and that against the model.
func both(t *testing.T, examples []example) {
	t.Helper()
	for _, x := range examples {
		if got := told(x.line, rows(x.line, x.w, x.look)); got != x.want {
			t.Errorf("the model says of %+q, %d, %v: %s, not %s", x.line, x.w, x.look, got, x.want)
		}
		if got := told(x.line, wrap.Rows(x.line, x.w, x.look)); got != x.want {
			t.Errorf("Rows(%+q, %d, %v) = %s, not %s", x.line, x.w, x.look, got, x.want)
		}
		check(t, x.line, x.w, x.look)
	}
}

var zero api.Look

// P14.1, P14.2: the chapter's examples.

func TestExamples(t *testing.T) {
	both(t, []example{
		{"ab cd", 5, zero, `"ab cd" 5 text`},
		{"", 3, zero, `"" 0 text`},
		{"\n", 3, zero, `"" 0 line`},
		{"ab", 0, zero, ``},
		{"ab cd ef", 5, zero, `"ab cd " 5 word, "ef" 2 text`},
		{"abcdef", 4, zero, `"abcd" 4 cut, "ef" 2 text`},
		{"a bcdef", 4, zero, `"a " 2 word, "bcde" 4 cut, "f" 1 text`},
		{"\u4E00\u4E8C\u4E09", 5, zero, `"\u4e00\u4e8c" 4 word, "\u4e09" 2 text`},
		{"\u4E00", 1, zero, `"\u4e00" 2 text`},
		{"ab   cd", 3, zero, `"ab   " 3 word, "cd" 2 text`},
		{"ab\ncd", 9, zero, `"ab" 2 line`},
		{"a\xFFb", 4, zero, `"a" 1 cut, "\xff" 4 cut, "b" 1 text`},
		{"\u05E9\u05DC\u05D5\u05DD", 9, zero, `"\u05e9\u05dc\u05d5\u05dd" 4 text level 1`},
		{"\u05E9\u05DC\u05D5\u05DD", 9, api.Look{Want: api.WantLeft}, `"\u05e9\u05dc\u05d5\u05dd" 4 text`},
		// The fifth example of the whole.
		{"ab cd", 4, zero, `"ab " 3 word, "cd" 2 text`},
	})
}

// P14.1: how many columns a row may have, and how many bytes a line.

func TestColumnsThatARowMayHave(t *testing.T) {
	for _, w := range []int{math.MinInt, -1024, -1, 0, 1025, 1026, 2048, math.MaxInt32, math.MaxInt} {
		for _, line := range []string{"", "a", "\n", "a b c"} {
			both(t, []example{{line, w, zero, ""}})
		}
	}
	for _, w := range []int{1, 2, 3, 1022, 1023, 1024} {
		both(t, []example{{"", w, zero, `"" 0 text`}, {"\n", w, zero, `"" 0 line`}, {"a", w, zero, `"a" 1 text`}})
	}
	for _, w := range []int{1023, 1024} {
		line := strings.Repeat("a", 1025)
		want := []api.Row{{At: 0, Len: w, Wide: w, End: api.EndCut}, {At: w, Len: 1025 - w, Wide: 1025 - w}}
		if got := wrap.Rows(line, w, zero); !slices.Equal(got, want) {
			t.Errorf("%v, not %v", got, want)
		}
	}
}

func TestBytesThatALineMayHave(t *testing.T) {
	const most = api.MaxLine
	for _, x := range []struct {
		line string
		want int
	}{
		{strings.Repeat("a", most), 64},
		{strings.Repeat("a", most+1), 0},
		{strings.Repeat("a", most-1) + "\n", 64},
		{strings.Repeat("a", most) + "\n", 0},
		{"a\n" + strings.Repeat("b", most-2), 1},
		// What counts for nothing is of the line all the same.
		{"a\n" + strings.Repeat("b", most-1), 0},
		{"\n" + strings.Repeat("\n", most), 0},
		{strings.Repeat("\xFF", most), 256},
		{strings.Repeat("\xFF", most+1), 0},
		{strings.Repeat("\u05D0", most/2), 32},
		{strings.Repeat("\u05D0", most/2) + "a", 0},
		{strings.Repeat(" ", most), 1},
		{strings.Repeat("a", 1<<20), 0},
	} {
		if got := wrap.Rows(x.line, 1024, zero); len(got) != x.want {
			t.Errorf("of %d bytes of %+q there are %d rows, not %d", len(x.line), x.line[:4], len(got), x.want)
		}
		if got := wrap.Count(x.line, 1024, zero); got != x.want {
			t.Errorf("of %d bytes of %+q Count tells %d rows, not %d", len(x.line), x.line[:4], got, x.want)
		}
	}
}

// P14.1: how far the line counts.

func TestTheLineCountsUpToItsEnd(t *testing.T) {
	for _, end := range []string{"\n", "\r\n", "\r", "\v", "\f", "\u0085", "\u2028", "\u2029"} {
		both(t, []example{
			{end, 1, zero, `"" 0 line`},
			{end + end, 1, zero, `"" 0 line`},
			{end + "abc", 1, zero, `"" 0 line`},
			{"ab" + end, 2, zero, `"ab" 2 line`},
			{"ab" + end + "cd", 2, zero, `"ab" 2 line`},
			{"ab" + end + "cd" + end, 2, zero, `"ab" 2 line`},
			{"ab" + end, 1, zero, `"a" 1 cut, "b" 1 line`},
			{"a b" + end, 1, zero, `"a " 1 word, "b" 1 line`},
			{"a  " + end + " ", 1, zero, `"a  " 1 line`},
			{" " + end, 9, zero, `" " 1 line`},
			{"\u4E00" + end, 1, zero, `"\u4e00" 2 line`},
			{"\u4E00\u4E00" + end, 1, zero, `"\u4e00" 2 cut, "\u4e00" 2 line`},
			// Its direction neither hangs on what counts for nothing.
			{"1" + end + "\u05D0", 9, zero, `"1" 1 line`},
			{end + "\u05D0", 9, zero, `"" 0 line`},
			{"\u05D0" + end + "a", 9, zero, `"\u05d0" 1 line level 1`},
			{end + "a", 9, api.Look{Want: api.WantRight}, `"" 0 line level 1`},
			{"a" + end, 9, api.Look{Raw: true}, `"a" 1 line`},
		})
	}
	both(t, []example{
		{"a\r\n\nb", 9, zero, `"a" 1 line`}, {"a\n\rb", 9, zero, `"a" 1 line`}, {"a\r\u0301", 9, zero, `"a" 1 line`},
		{"a\x1Cb", 9, zero, `"a\x1cb" 4 text`}, {"a\x85b", 9, zero, `"a\x85b" 6 text`}, {"a\xE2\x80b", 10, zero, `"a\xe2\x80b" 10 text`},
	})
}

// P14.1: blanks that hang.

func TestBlanksHang(t *testing.T) {
	both(t, []example{
		{"ab ", 3, zero, `"ab " 3 text`},
		{"ab ", 2, zero, `"ab " 2 text`},
		{"ab    ", 2, zero, `"ab    " 2 text`},
		{"ab    ", 4, zero, `"ab    " 4 text`},
		{"ab c", 3, zero, `"ab " 3 word, "c" 1 text`},
		{"ab c", 2, zero, `"ab " 2 word, "c" 1 text`},
		{"ab \tc", 2, zero, `"ab \t" 2 word, "c" 1 text`},
		{"a b", 1, zero, `"a " 1 word, "b" 1 text`},
		{"   ", 1, zero, `"   " 1 text`},
		{"   a", 1, zero, `"   " 1 word, "a" 1 text`},
		{" a", 1, zero, `" " 1 word, "a" 1 text`},
		{"\t", 3, zero, `"\t" 0 text`},
		{"\ta", 3, zero, `"\t" 0 word, "a" 1 text`},
		{"\t a", 3, zero, `"\t " 0 word, "a" 1 text`},
		{"\u3000", 1, zero, `"\u3000" 0 text`},
		{"\u3000b", 1, zero, `"\u3000" 0 word, "b" 1 text`},
		// A blank that would have room hangs, too, if one ahead of it does.
		{"ab\u3000 c", 3, zero, `"ab\u3000 " 2 word, "c" 1 text`},
		{"ab\u3000 \u3000  c", 3, zero, `"ab\u3000 \u3000  " 2 word, "c" 1 text`},
		{"a\t  bc", 3, zero, `"a\t  " 1 word, "bc" 2 text`},
		{"a  \u0301 b", 2, zero, `"a  \u0301 " 2 word, "b" 1 text`},
		{"ab \u0301", 2, zero, `"ab \u0301" 2 text`},
	})
}

func TestWhatDoesNotHang(t *testing.T) {
	both(t, []example{
		{"ab\u00A0", 2, zero, `"ab" 2 cut, "\u00a0" 1 text`},
		{"ab\u2007c", 2, zero, `"ab" 2 cut, "\u2007c" 2 text`},
		{"ab\u202Fc", 2, zero, `"ab" 2 cut, "\u202fc" 2 text`},
		{"ab\u0301\u00A0", 2, zero, `"ab\u0301" 2 cut, "\u00a0" 1 text`},
		{"ab-", 2, zero, `"ab" 2 cut, "-" 1 text`},
		// What has no columns goes into a full row, but not behind what hangs.
		{"ab\u200B", 2, zero, `"ab\u200b" 2 text`},
		{"ab\u2060\u202E\u200Bc", 2, zero, `"ab\u2060\u202e\u200b" 2 word, "c" 1 text`},
		{"ab \u200B", 2, zero, `"ab " 2 cut, "\u200b" 0 text`},
		{"a b \u200B", 3, zero, `"a " 2 word, "b \u200b" 2 text`},
		{"ab \u202E", 2, zero, `"ab " 2 word, "\u202e" 0 text`},
		{"ab \u202E c", 2, zero, `"ab " 2 word, "\u202e c" 2 text`},
		{"ab \u200Dc", 2, zero, `"ab \u200d" 2 word, "c" 1 text`},
		{"ab \u2060c", 2, zero, `"ab " 2 word, "\u2060c" 1 text`},
		{"\u202E\u202E", 1, zero, `"\u202e\u202e" 0 text`},
		{"\u202Eab", 1, zero, `"\u202ea" 1 cut, "b" 1 text`},
		{"\u202E\u4E00", 1, zero, `"\u202e" 0 word, "\u4e00" 2 text`},
		{"\u2060\u4E00", 1, zero, `"\u2060" 0 cut, "\u4e00" 2 text`},
	})
}

// P14.1: where a row ends that is full.

func TestRowsEndAtTheLastPlaceThatMayBe(t *testing.T) {
	both(t, []example{
		{"a b c d", 4, zero, `"a b " 4 word, "c d" 3 text`},
		{"a b c d", 5, zero, `"a b c " 5 word, "d" 1 text`},
		{"a b cde", 5, zero, `"a b " 4 word, "cde" 3 text`},
		{"a bcd e", 4, zero, `"a " 2 word, "bcd " 4 word, "e" 1 text`},
		{"a-b-c", 3, zero, `"a-" 2 word, "b-c" 3 text`},
		{"a-1-2", 3, zero, `"a-1" 3 cut, "-2" 2 text`},
		{"ab(c) d", 4, zero, `"ab(c" 4 cut, ") d" 3 text`},
		{"x ab)", 4, zero, `"x " 2 word, "ab)" 3 text`},
		{"x (a)", 4, zero, `"x " 2 word, "(a)" 3 text`},
		{"\u4E00\u4E8C\u3002\u4E09", 4, zero, `"\u4e00" 2 word, "\u4e8c\u3002" 4 word, "\u4e09" 2 text`},
		{"a\u4E00\u4E8C", 4, zero, `"a\u4e00" 3 word, "\u4e8c" 2 text`},
		{"a\u200Bbcd", 3, zero, `"a\u200b" 1 word, "bcd" 3 text`},
		{"e\u0301e\u0301e\u0301", 2, zero, `"e\u0301e\u0301" 2 cut, "e\u0301" 1 text`},
		// Columns of what stands behind the place do not count.
		{"ab cde", 5, zero, `"ab " 3 word, "cde" 3 text`},
		{"ab  cde", 6, zero, `"ab  " 4 word, "cde" 3 text`},
		// Where a blank hangs and nothing may be broken behind it the row ends at the place ahead.
		{"a b )", 3, zero, `"a " 2 word, "b )" 3 text`},
		{"a b  )", 3, zero, `"a " 2 word, "b  " 3 cut, ")" 1 text`},
		{"ab )", 2, zero, `"ab " 2 cut, ")" 1 text`},
		{"( a", 2, zero, `"( " 2 cut, "a" 1 text`},
		{"( a", 1, zero, `"( " 1 cut, "a" 1 text`},
		{"a( )", 2, zero, `"a( " 2 cut, ")" 1 text`},
	})
}

func TestClustersThatAreTooWide(t *testing.T) {
	both(t, []example{
		{"\u4E00\u4E8C", 1, zero, `"\u4e00" 2 cut, "\u4e8c" 2 text`},
		{"\u4E00 \u4E8C", 1, zero, `"\u4e00" 2 cut, " " 1 word, "\u4e8c" 2 text`},
		{"\u4E00 ", 1, zero, `"\u4e00" 2 cut, " " 1 text`},
		{"\u4E00\u200B", 1, zero, `"\u4e00" 2 cut, "\u200b" 0 text`},
		{"a\u4E00", 1, zero, `"a" 1 word, "\u4e00" 2 text`},
		{"a\u4E00b", 1, zero, `"a" 1 word, "\u4e00" 2 cut, "b" 1 text`},
		{"\x01a", 1, zero, `"\x01" 2 cut, "a" 1 text`},
		{"\xFF\xFE", 3, zero, `"\xff" 4 cut, "\xfe" 4 text`},
		{"\xFF\xFE", 4, zero, `"\xff" 4 cut, "\xfe" 4 text`},
		{"\xFF\xFE", 7, zero, `"\xff" 4 cut, "\xfe" 4 text`},
		{"\xFF\xFE", 8, zero, `"\xff\xfe" 8 text`},
		{"\U0001F469\u200D\U0001F4BB", 1, zero, `"\U0001f469\u200d\U0001f4bb" 2 text`},
		{"\u202E\u202E", 3, api.Look{Raw: true}, `"\u202e" 6 cut, "\u202e" 6 text`},
	})
}

// P14.1: the columns are those that show tells at the row's column.

func TestTabsStandAtTheRowsColumn(t *testing.T) {
	both(t, []example{
		{"a\tb", 9, zero, `"a\tb" 9 text`},
		{"a\tb", 8, zero, `"a\t" 8 word, "b" 1 text`},
		{"a\tb", 7, zero, `"a\t" 1 word, "b" 1 text`},
		{"a\tb", 5, api.Look{Tab: 4}, `"a\tb" 5 text`},
		{"a\tb\tc", 8, api.Look{Tab: 4}, `"a\tb\t" 8 word, "c" 1 text`},
		// A new row begins at the column 0.
		{"ab cd\te", 4, api.Look{Tab: 4}, `"ab " 3 word, "cd\t" 4 word, "e" 1 text`},
		{"abc\tde\tf", 4, api.Look{Tab: 4}, `"abc\t" 4 word, "de\t" 4 word, "f" 1 text`},
		{"abcde\tf", 4, api.Look{Tab: 3}, `"abcd" 4 cut, "e\tf" 4 text`},
		{"a\tb", 17, api.Look{Tab: 16}, `"a\tb" 17 text`},
		{"a\tb", 17, api.Look{Tab: 17}, `"a\tb" 9 text`},
		{"a\tb", 17, api.Look{Tab: math.MinInt}, `"a\tb" 9 text`},
		{"a\tb", 17, api.Look{Tab: 1}, `"a\tb" 3 text`},
	})
}

func TestLooks(t *testing.T) {
	both(t, []example{
		{"\u03B1", 1, api.Look{Wide: true}, `"\u03b1" 2 text`},
		{"\u03B1\u03B2\u03B3", 4, api.Look{Wide: true}, `"\u03b1\u03b2" 4 cut, "\u03b3" 2 text`},
		{"\u03B1\u03B2\u03B3", 4, zero, `"\u03b1\u03b2\u03b3" 3 text`},
		{"a\u200Eb", 2, zero, `"a\u200eb" 2 text`},
		{"a\u200Eb", 7, api.Look{Raw: true}, `"a\u200e" 7 cut, "b" 1 text`},
		{"a\u200Eb", 6, api.Look{Raw: true}, `"a" 1 cut, "\u200e" 6 cut, "b" 1 text`},
		{"\u0628\u0627", 1, api.Look{Join: true}, `"\u0628" 1 cut level 1, "\u0627" 1 text level 1`},
	})
}

func TestBadBytesAreNotFFFD(t *testing.T) {
	both(t, []example{
		{"\uFFFD\uFFFD", 4, zero, `"\ufffd\ufffd" 2 text`},
		{"\uFFFD\xFF", 4, zero, `"\ufffd" 1 cut, "\xff" 4 text`},
		{"a \xFF \xE4\xB8 b", 6, zero, `"a \xff " 6 word, "\xe4" 4 cut, "\xb8 b" 6 text`},
		{"\xFF\u0301", 4, zero, `"\xff" 4 cut, "\u0301" 1 text`},
		{"\xA0", 1, zero, `"\xa0" 4 text`},
		{"ab\x20\xE3\x80\x80\xE3\x80", 2, zero, `"ab \u3000" 2 word, "\xe3" 4 cut, "\x80" 4 text`},
	})
}

// P14.1: levels.

func TestLevels(t *testing.T) {
	right, left, raw := api.Look{Want: api.WantRight}, api.Look{Want: api.WantLeft}, api.Look{Raw: true}
	both(t, []example{
		{"", 1, zero, `"" 0 text`},
		{"", 1, right, `"" 0 text level 1`},
		{"ab", 1, right, `"a" 1 cut level 1, "b" 1 text level 1`},
		{"12 \u05D0", 2, zero, `"12 " 2 word level 1, "\u05d0" 1 text level 1`},
		{"\u05D0 ab", 2, zero, `"\u05d0 " 2 word level 1, "ab" 2 text level 1`},
		{"\u05D0 ab", 2, left, `"\u05d0 " 2 word, "ab" 2 text`},
		{"a \u05D0\u05D1", 2, zero, `"a " 2 word, "\u05d0\u05d1" 2 text`},
		{"\u05D0 ab", 2, raw, `"\u05d0 " 2 word, "ab" 2 text`},
		{"ab", 2, api.Look{Raw: true, Want: api.WantRight}, `"ab" 2 text`},
		{"\xFF\u05D0", 9, zero, `"\xff\u05d0" 5 text level 1`},
		{"\u0627", 9, zero, `"\u0627" 1 text level 1`},
		{"\u2067a\u2069\u05D0", 9, zero, `"\u2067a\u2069\u05d0" 2 text level 1`},
	})
	// A number that is no direction counts as the first one (R10).
	for _, want := range []int8{-128, -1, 3, 4, 127} {
		both(t, []example{{"\u05D0", 9, api.Look{Want: want}, `"\u05d0" 1 text level 1`}, {"a", 9, api.Look{Want: want}, `"a" 1 text`}})
	}
}

// parts are one character, or bad byte, for each thing that the chapter tells apart.
var parts = []string{"a", " ", "\t", "\u3000", "\u200B", "\u202E", "\u4E00", "\xFF", "-", "(", ")", "\u0301", "\n", "\u05D0", "\u00A0"}

// texts hands out s and all texts that have up to n of the parts behind it.
func texts(s string, n int, f func(s string)) {
	f(s)
	if n == 0 {
		return
	}
	for _, part := range parts {
		texts(s+part, n-1, f)
	}
}

func TestAllShortLines(t *testing.T) {
	texts("", 4, func(s string) {
		for _, w := range []int{1, 2, 3} {
			if !t.Failed() {
				check(t, s, w, api.Look{Tab: 2})
			}
		}
	})
	texts("ab ", 3, func(s string) {
		for w := range 8 {
			if !t.Failed() {
				check(t, s, w, api.Look{Tab: 4, Raw: w%2 == 0})
			}
		}
	})
}

// Every character, where a row is full, and where a blank hangs ahead of it.
func TestEveryCharacter(t *testing.T) {
	for r := rune(0); r <= 0x10FFFF && !t.Failed(); r++ {
		c := string([]rune{r})
		line := "ab" + c + "c"
		got := wrap.Rows(line, 2, zero)
		if class.Break(r) == api.BreakSpace && (len(got) != 2 || got[0].Len != 2+len(c) || got[0].Wide != 2) {
			t.Errorf("Rows(%+q, 2) = %s", line, told(line, got))
		}
		// The first ones, and one in some hundred, are held against the model.
		if r < 0x3100 || r%293 == 0 {
			check(t, line, 2, zero)
			check(t, "ab "+c+"c", 2, api.Look{Wide: true, Raw: true})
		}
	}
}

func TestTheEndsOfClasses(t *testing.T) {
	for table := int8(api.TabKind); table <= api.TabBreak; table++ {
		for value := range 30 {
			for _, span := range class.Spans(table, value) {
				for _, c := range []string{string([]rune{span.From}), string([]rune{span.To})} {
					check(t, c+c, 1, zero)
					check(t, "a "+c+"b", 2, api.Look{Wide: true})
				}
			}
		}
	}
}

// P14.3

func TestAt(t *testing.T) {
	for _, x := range []struct {
		starts []int
		c      api.Caret
		want   int
	}{
		{[]int{0, 6}, api.Caret{At: 6}, 1},
		{[]int{0, 6}, api.Caret{At: 6, Back: true}, 0},
		{[]int{0, 6}, api.Caret{At: 99}, 1},
		{[]int{0, 6}, api.Caret{At: 99, Back: true}, 1},
		{[]int{0, 6}, api.Caret{At: 5}, 0},
		{[]int{0, 6}, api.Caret{At: 5, Back: true}, 0},
		{[]int{0, 6}, api.Caret{At: 7, Back: true}, 1},
		{[]int{0, 6}, api.Caret{At: 0}, 0},
		{[]int{0, 6}, api.Caret{At: 0, Back: true}, 0},
		{[]int{0, 6}, api.Caret{At: -1}, 0},
		{[]int{0, 6}, api.Caret{At: -1, Back: true}, 0},
		{[]int{0, 6}, api.Caret{At: math.MaxInt}, 1},
		{[]int{0, 6}, api.Caret{At: math.MinInt, Back: true}, 0},
		{[]int{0, 6}, api.Caret{At: 6, Want: 3}, 1},
		{[]int{}, api.Caret{}, -1},
		{nil, api.Caret{At: 3, Back: true}, -1},
		{[]int{7}, api.Caret{At: 3}, 0},
		{[]int{7}, api.Caret{At: 7, Back: true}, 0},
		{[]int{7, 9}, api.Caret{At: 3}, 0},
		{[]int{7, 9}, api.Caret{At: 7, Back: true}, 0},
		{[]int{0, 2, 4, 6}, api.Caret{At: 4}, 2},
		{[]int{0, 2, 4, 6}, api.Caret{At: 4, Back: true}, 1},
		{[]int{0, 2, 4, 6}, api.Caret{At: 3}, 1},
		{[]int{0, 2, 4, 6}, api.Caret{At: 6, Back: true}, 2},
		// Any rows: such as do not rise, and such as begin at one place.
		{[]int{3, 3, 3}, api.Caret{At: 3}, 2},
		{[]int{3, 3, 3}, api.Caret{At: 3, Back: true}, 1},
		{[]int{9, 5, 1}, api.Caret{At: 5}, 2},
		{[]int{9, 5, 1}, api.Caret{At: 1, Back: true}, 1},
		{[]int{1, 9, 4, 8}, api.Caret{At: 5}, 2},
		{[]int{1, 9, 4, 8}, api.Caret{At: 4, Back: true}, 1},
		{[]int{1, 9, 4, 8}, api.Caret{At: 1, Back: true}, 0},
		{[]int{1, 9, 4, 8}, api.Caret{At: 9, Back: true}, 3},
		{[]int{-4, -2}, api.Caret{At: -2}, 1},
		{[]int{-4, -2}, api.Caret{At: -2, Back: true}, 0},
		{[]int{math.MinInt, math.MaxInt}, api.Caret{At: math.MaxInt, Back: true}, 0},
	} {
		var all []api.Row
		for _, at := range x.starts {
			all = append(all, api.Row{At: at, Len: 1})
		}
		if got := wrap.At(all, x.c); got != x.want {
			t.Errorf("At(%v, %v) = %d, not %d", x.starts, x.c, got, x.want)
		}
	}
}
