package word_test

import (
	"math"
	"strings"
	"testing"

	"shuttle/word"
)

// parts are one character, or bad byte, for each thing that the chapter tells apart.
var parts = []string{
	"a", "1", "'", ":", ".", ",", "\u2019", "\u00B7", "_", "\u0301", "\u4E16", " ", "\t", "\n", "\u2028", "\u00A0", "-", "\xFF", "\uFFFD",
}

// texts hands out s and all texts that have up to n of the parts behind it.
func texts(s string, parts []string, n int, f func(s string)) {
	f(s)
	if n == 0 {
		return
	}
	for _, part := range parts {
		texts(s+part, parts, n-1, f)
	}
}

// check holds every call against the segments that s is to have.
func check(t *testing.T, s string, want []string) {
	t.Helper()
	checkAll(t, s, want)
	at := 0
	for _, part := range want {
		for p := at; p < at+len(part); p++ {
			checkPlace(t, s, p, at, at+len(part))
		}
		at += len(part)
	}
	checkPlace(t, s, len(s), len(s), len(s))
	checkWords(t, s, beginnings(want))
}

func checkAll(t *testing.T, s string, want []string) {
	t.Helper()
	i, at := 0, 0
	for p, part := range word.All(s) {
		if i == len(want) || p != at || part != want[i] {
			t.Fatalf("All(%+q): %+q at %d as number %d of %+q", s, part, p, i, want)
		}
		i++
		at += len(part)
	}
	if i != len(want) {
		t.Errorf("All(%+q) ends after %d of %+q", s, i, want)
	}
}

func checkPlace(t *testing.T, s string, at, from, to int) {
	t.Helper()
	if a, b := word.At(s, at); a != from || b != to {
		t.Errorf("At(%+q, %d) = %d, %d, not %d, %d", s, at, a, b, from, to)
	}
	if got := word.Is(s, at); got != (at == from) {
		t.Errorf("Is(%+q, %d) = %v", s, at, got)
	}
}

func checkWords(t *testing.T, s string, places []int) {
	t.Helper()
	for at := -1; at <= len(s)+1; at++ {
		in := min(max(at, 0), len(s))
		if got, want := word.Next(s, at), above(places, in, len(s)); got != want {
			t.Errorf("Next(%+q, %d) = %d, not %d", s, at, got, want)
		}
		if got, want := word.Prev(s, at), below(places, in); got != want {
			t.Errorf("Prev(%+q, %d) = %d, not %d", s, at, got, want)
		}
	}
}

// both holds every call against want, and want against the model.
func both(t *testing.T, want []string) {
	t.Helper()
	s := strings.Join(want, "")
	if got := segments(s); strings.Join(got, "/") != strings.Join(want, "/") {
		t.Errorf("the model parts %+q into %+q", s, got)
	}
	check(t, s, want)
}

// P12.1 to P12.4: the chapter's examples, and its edges.

func TestExamples(t *testing.T) {
	for _, want := range [][]string{
		nil,
		{"don't", " ", "stop", "."},
		{"a", "'", "1", " ", "1", "'", "a", " ", "'", "a", "'"},
		{"1,000.5", " ", "1", ".", " ", ".", "5", " ", "a", ".", "b"},
		{"a", "'", "'", "b", ",", " ", "a:b", " ", "x_1"},
		{"\u4E16", "\u4E17", "  "},
		{"a\u0301", "\xFF", "b"},
		{"\t ", "\n", " "},
	} {
		both(t, want)
	}
}

func TestLettersAndDigits(t *testing.T) {
	for _, want := range [][]string{
		{"a1b2"}, {"1a"}, {"_"}, {"_1_a"}, {"\u0301"}, {"\n", "\u0301a1"}, {"\u05D0\u05B8\u0661\uFF11"}, {"\u1100\u1161\u11A8a"},
		{"a", "\u4E16", "a"}, {"1", "\uAC00\u11A8", "1"}, {"\u4E16\u0301", "\u3042", "\uFF21", "\u30A2"}, {"\u00E9\u00DF"},
		{"a", "\xFF", "\u0301b"}, {"a", "\uFFFD", "b"}, {"a", "\u200B", "b"}, {"a\u200Db"}, {"a", "-", "b"}, {"a", "\U0001F469\u200D\U0001F4BB", "b"},
		{"\u200D", "a"}, {"a", "\xE4", "\xB8", "1"},
	} {
		both(t, want)
	}
}

func TestSignsAmongLetters(t *testing.T) {
	for _, sign := range []string{"'", "\u2019", "\u00B7", ":"} {
		for _, want := range [][]string{
			{"a" + sign + "b"}, {"a" + sign + "b" + sign + "c"}, {"_" + sign + "_"}, {"\u0301" + sign + "a\u0301"}, {"1a" + sign + "b1"},
			{sign}, {sign, sign}, {"a", sign}, {sign, "a"}, {"a", sign, sign, "b"}, {"1", sign, "1"}, {"a", sign, "1"}, {"1", sign, "a"},
			{"a", sign + "\u0301", "b"}, {"a\u0301" + sign + "b"}, {"a", sign, " ", "b"}, {"a", " ", sign, "b"}, {"a", sign, "\u4E16"},
			{"\u4E16", sign, "a"}, {"a", sign, "\xFF", "b"}, {"a", "\xFF", sign, "b"}, {"a" + sign + "b", sign, "1"}, {"1", sign, "a" + sign + "b"},
			{"a" + sign + "b1", sign, "c"}, {"a", sign, "\n"}, {"a", sign + "\u200D", "b"},
		} {
			both(t, want)
		}
	}
	both(t, []string{"a'b:c\u2019d\u00B7e"})
	both(t, []string{"a", "'", ":", "b"})
}

func TestSignsAmongDigits(t *testing.T) {
	for _, sign := range []string{".", ","} {
		for _, want := range [][]string{
			{"1" + sign + "2"}, {"1" + sign + "2" + sign + "3"}, {"a1" + sign + "2b"}, {"\u0661" + sign + "\uFF11\u0301"}, {"1\u0301" + sign + "2"},
			{sign}, {sign, sign}, {"1", sign}, {sign, "1"}, {"1", sign, sign, "2"}, {"a", sign, "b"}, {"a", sign, "1"}, {"1", sign, "a"},
			{"1", sign + "\u0301", "2"}, {"1", sign, " ", "2"}, {"1", " ", sign, "2"}, {"_", sign, "1"}, {"1", sign, "_"}, {"1", sign, "\u4E16"},
			{"1" + sign + "2", sign, "a"}, {"a", sign, "1" + sign + "2"}, {"1", sign, "\xFF", "2"}, {"1", sign, "\u066B", "2"},
		} {
			both(t, want)
		}
	}
	both(t, []string{"1,000,000.5"})
	both(t, []string{"1", ",", ".", "2"})
	both(t, []string{"a'b", ".", "c1,2d"})
}

func TestBlanks(t *testing.T) {
	for _, want := range [][]string{
		{" "}, {" \t\u00A0\u2007\u3000\u205F"}, {" \u0301 "}, {"\t\t"}, {"\t", "\u0301", " "}, {" ", "\u2028", " "}, {" ", "\u2029", "\u2029", "\t"},
		{" ", "\r\n", "\n", "\r", "\t"}, {" ", "\v", " "}, {" ", "\u0085", "\u200B", " "}, {" ", "\xFF", " "}, {" ", "a", " "}, {" ", "'", " "},
	} {
		both(t, want)
	}
}

func TestEachOtherOneStandsByItself(t *testing.T) {
	for _, want := range [][]string{
		{"-", "-"}, {"\xFF", "\xFE"}, {"\n", "\n"}, {"\uFFFD", "\uFFFD"}, {"(", "a", ")"}, {"\x00", "\x00"}, {"\U0001F1E6\U0001F1E7", "\U0001F1E8"}, {"=\u0301", "="},
		{"\u200E", "\u200E"}, {"\uE000", "\uE000"}, {"'", "."},
	} {
		both(t, want)
	}
}

func TestPlaces(t *testing.T) {
	for _, x := range []struct {
		s                    string
		at, next, prev, a, b int
		is                   bool
	}{
		{"a b", 0, 2, 0, 0, 1, true}, {"a b", 2, 3, 0, 2, 3, true}, {"a b", -1, 2, 0, 0, 1, false}, {"a b", 3, 3, 2, 3, 3, true},
		{"a b", 1, 2, 0, 1, 2, true}, {"a b", 4, 3, 2, 3, 3, false},
		{"a bc", 3, 4, 2, 2, 4, false}, {"a bc", 1, 2, 0, 1, 2, true}, {"a bc", 9, 4, 2, 4, 4, false},
		{"a bc", math.MaxInt, 4, 2, 4, 4, false}, {"a bc", math.MinInt, 2, 0, 0, 1, false},
		{"", 0, 0, 0, 0, 0, true}, {"", 1, 0, 0, 0, 0, false}, {"", -1, 0, 0, 0, 0, false}, {"", math.MaxInt, 0, 0, 0, 0, false}, {"", math.MinInt, 0, 0, 0, 0, false},
		{"  ", 1, 2, 0, 0, 2, false}, {" a", 0, 1, 0, 0, 1, true}, {" a", 1, 2, 0, 1, 2, true}, {" a", 2, 2, 1, 2, 2, true}, {" a", -5, 1, 0, 0, 1, false},
		{"\u4E16\u4E17", 1, 3, 0, 0, 3, false}, {"\u4E16\u4E17", 3, 6, 0, 3, 6, true}, {"\u4E16\u4E17", 4, 6, 3, 3, 6, false},
		{"a'b c", 1, 4, 0, 0, 3, false}, {"a'b c", 2, 4, 0, 0, 3, false}, {"a'b c", 4, 5, 0, 4, 5, true},
	} {
		if got := word.Next(x.s, x.at); got != x.next {
			t.Errorf("Next(%+q, %d) = %d, not %d", x.s, x.at, got, x.next)
		}
		if got := word.Prev(x.s, x.at); got != x.prev {
			t.Errorf("Prev(%+q, %d) = %d, not %d", x.s, x.at, got, x.prev)
		}
		if a, b := word.At(x.s, x.at); a != x.a || b != x.b {
			t.Errorf("At(%+q, %d) = %d, %d, not %d, %d", x.s, x.at, a, b, x.a, x.b)
		}
		if got := word.Is(x.s, x.at); got != x.is {
			t.Errorf("Is(%+q, %d) = %v", x.s, x.at, got)
		}
	}
}

// P12.1 to P12.4 with the chapter's Words: all short texts, and every character, as the model.

func TestAllShortTexts(t *testing.T) {
	texts("", parts, 4, func(s string) {
		if !t.Failed() {
			check(t, s, segments(s))
		}
	})
}

func TestLongerTextsOfFewParts(t *testing.T) {
	for _, few := range [][]string{
		{"a", "1", "'", "."},
		{"a", "'", "\u0301", " "},
		{"1", ",", "\xFF", "\u4E16"},
	} {
		texts("", few, 6, func(s string) {
			if !t.Failed() {
				check(t, s, segments(s))
			}
		})
	}
}

func TestEveryCharacter(t *testing.T) {
	for r := rune(0); r <= 0x10FFFF && !t.Failed(); r++ {
		// A number that is none becomes EF BF BD.
		c := string([]rune{r})
		s := " " + c + "a" + c
		checkAll(t, s, segments(s))
		if r < 0x700 || r>>8 == 0x20 || r>>8 == 0x30 || r%0x400 < 4 {
			s = c + c + " a" + c + "a1" + c + "1 a'" + c + "1." + c + " " + c + " "
			check(t, s, segments(s))
		}
	}
}
