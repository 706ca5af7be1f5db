package cluster_test

import (
	"math"
	"slices"
	"strings"
	"testing"

	"shuttle/api"
	"shuttle/class"
	"shuttle/cluster"
)

// kinds are one character, or bad byte, for each thing that the chapter tells apart.
var kinds = []string{
	"a", "\u0301", "\u200C", "\u200D", "\r", "\n", "\u202E", "\u2028", "\U0001F1E6", "\U0001F469",
	"\u1100", "\u1161", "\u11A8", "\uAC00", "\uAC01", "\x80", "\uFFFD",
}

// texts hands out s and all texts that have up to n of the parts behind it.
func texts(s string, parts []string, n int, f func(s string)) {
	f(s)
	if n == 0 {
		return
	}
	for _, part := range parts {
		texts(s+part, parts, n-1, f)
	}
}

// check holds every call against the clusters that s is to have.
func check(t *testing.T, s string, want []string) {
	t.Helper()
	checkIterators(t, s, want)
	checkPlaces(t, s, want)
	next, last := 0, 0
	if len(want) > 0 {
		next, last = len(want[0]), len(want[len(want)-1])
	}
	if got := cluster.Next(s); got != next {
		t.Errorf("Next(%+q) = %d, not %d", s, got, next)
	}
	if got := cluster.Last(s); got != last {
		t.Errorf("Last(%+q) = %d, not %d", s, got, last)
	}
	if got := cluster.Count(s); got != len(want) {
		t.Errorf("Count(%+q) = %d, not %d", s, got, len(want))
	}
}

func checkIterators(t *testing.T, s string, want []string) {
	t.Helper()
	i, at := 0, 0
	for p, c := range cluster.All(s) {
		if i == len(want) || p != at || c != want[i] {
			t.Fatalf("All(%+q): %+q at %d as number %d of %+q", s, c, p, i, want)
		}
		i++
		at += len(c)
	}
	if i != len(want) {
		t.Errorf("All(%+q) ends after %d of %+q", s, i, want)
	}
	for p, c := range cluster.Back(s) {
		i--
		if i < 0 || p != at-len(c) || c != want[i] {
			t.Fatalf("Back(%+q): %+q at %d as number %d of %+q", s, c, p, i, want)
		}
		at = p
	}
	if i != 0 {
		t.Errorf("Back(%+q) ends %d ahead of the beginning of %+q", s, i, want)
	}
}

func checkPlaces(t *testing.T, s string, want []string) {
	t.Helper()
	at := 0
	for _, c := range want {
		for p := at; p < at+len(c); p++ {
			checkPlace(t, s, p, at, at+len(c))
		}
		at += len(c)
	}
	checkPlace(t, s, len(s), len(s), len(s))
}

func checkPlace(t *testing.T, s string, at, from, to int) {
	t.Helper()
	if a, b := cluster.At(s, at); a != from || b != to {
		t.Errorf("At(%+q, %d) = %d, %d, not %d, %d", s, at, a, b, from, to)
	}
	if got := cluster.Is(s, at); got != (at == from) {
		t.Errorf("Is(%+q, %d) = %v", s, at, got)
	}
}

// P3.1, P3.2, P3.3: the chapter's examples, and its edges.

func TestExamples(t *testing.T) {
	marks := strings.Repeat("\u0301", 32)
	for _, want := range [][]string{
		nil,
		{"a\u0301\u0301", "b"},
		{"\u0301", "a"},
		{"\r\n", "\n", "\r", "a\u0301"},
		{"\n", "\u0301"},
		{"\U0001F1E6\U0001F1E7", "\U0001F1E8\u0301", "\U0001F1E9"},
		{"\U0001F469\u200D\U0001F4BB\u200D", "a"},
		{"a\u200D", "\U0001F4BB"},
		{"\u1100\u1161\u11A8", "\uAC00\u11A8"},
		{"\uAC01", "\u1161"},
		{"a", "\x80", "\u0301"},
		{"\u202E", "\u0301"},
		{marks, "\u0301"},
	} {
		check(t, strings.Join(want, ""), want)
	}
}

func TestWhatStandsAlone(t *testing.T) {
	for _, want := range [][]string{
		{"\x00", "\u0301"}, {"\x7F", "\u200D"}, {"\u0085", "\u0301"}, {"\t", "\t"},
		{"\u2028", "\u0301"}, {"\u2029", "\u200C"}, {"\u00AD", "\u0301"}, {"\u200B", "\u0301"}, {"\u200E", "\u0301"}, {"\uFEFF", "\u0301"},
		{"a", "\u2028"}, {"a", "\u200B"}, {"a", "\n"}, {"a", "\r\n", "a"}, {"\n", "\r"}, {"\r", "\r\n"}, {"\r", "\u0301", "\n"},
		{"\xE4", "\xB8"}, {"\xC3", "\xC3", "\u00C3"}, {"\r", "\x8A", "\n"}, {"\uFFFD\u0301", "\xFD", "\u0301"},
		{"\U0001F1E6", "\xF0", "\U0001F1E6"}, {"\u1100", "\xE1", "\u1161"},
	} {
		check(t, strings.Join(want, ""), want)
	}
}

func TestJoinersAndMarks(t *testing.T) {
	for _, want := range [][]string{
		{"\u200C\u200D\u0301"}, {"\u200D", "a"}, {" \u0301", "b"}, {"\u0301\u200C", "\u1100"}, {"a\u200C\uFE0F"}, {"\uFFFD\u0301"}, {"\u00A0\u20DD"},
	} {
		check(t, strings.Join(want, ""), want)
	}
}

func TestRegionalSigns(t *testing.T) {
	const sign = "\U0001F1FF"
	for _, want := range [][]string{
		{sign + sign, sign + sign, sign}, {sign + "\u0301", sign + sign}, {sign + "\u200D", sign}, {sign + sign + "\u200D", sign},
		{"a", sign + sign}, {sign, "a", sign + sign}, {"\u0301", sign + sign}, {"\U0001F1E5", sign, "\U0001F200"},
	} {
		check(t, strings.Join(want, ""), want)
	}
}

func TestPictures(t *testing.T) {
	const picture, dark = "\U0001F469", "\U0001F3FF"
	for _, want := range [][]string{
		{picture, dark}, {picture + "\uFE0F\u200D" + picture}, {picture + "\u200D\uFE0F", picture}, {picture + "\u200D\u200D" + picture},
		{picture + "\u200C", picture}, {"\u200D", picture + "\u200D" + picture}, {picture + "\u200D", "\u2764"}, {"\u2764\u200D", picture},
		{"\u231A\u200D\u2B50"}, {picture + "\u200D", "\u4E00\u200D", picture}, {picture, "\xE2", "\u200D", picture},
		{"\U0001F1E6\u200D", picture}, {picture + "\u200D", "\U0001F1E6"},
	} {
		check(t, strings.Join(want, ""), want)
	}
}

func TestSyllables(t *testing.T) {
	for _, want := range [][]string{
		{"\u1100\u115F\u1160\u11A7\u11A8\u11FF"}, {"\u1100\uAC00\u1161\u11A8"}, {"\u1100\uD7A3\u11A8"}, {"\uD7A3", "\u1160"}, {"\uD788\u1160"},
		{"\uAC00", "\uAC00"}, {"\u1161", "\u1100\u1161"}, {"\u11A8", "\u1161"}, {"\u11A8", "\u1100"}, {"\u1161\u1161"}, {"\u1161", "\uAC00"},
		{"\u1100", "\u11A8"}, {"\u1100\u0301", "\u1161"}, {"\uAC00\u200D", "\u11A8"}, {"\u10FF", "\u1161"}, {"\u11A8", "\u1200"},
		{"\uAC01\u11A8\u11A8"}, {"\uAC01", "\uAC01"}, {"\u1100\u1100\u1161\u1161\u11A8\u11A8", "\u1161"}, {"\uD7A4", "\u11A8"},
	} {
		check(t, strings.Join(want, ""), want)
	}
}

func TestPlaces(t *testing.T) {
	for _, x := range []struct {
		s            string
		at, from, to int
		is           bool
	}{
		{"a\u0301", 0, 0, 3, true}, {"a\u0301", 1, 0, 3, false}, {"a\u0301", 2, 0, 3, false}, {"a\u0301", 3, 3, 3, true},
		{"a\u0301", 4, 3, 3, false}, {"a\u0301", 99, 3, 3, false}, {"a\u0301", -1, 0, 3, false}, {"a\u0301", -5, 0, 3, false},
		{"a\u0301", math.MinInt, 0, 3, false}, {"a\u0301", math.MaxInt, 3, 3, false},
		{"", 0, 0, 0, true}, {"", 1, 0, 0, false}, {"", -1, 0, 0, false}, {"", math.MaxInt, 0, 0, false}, {"", math.MinInt, 0, 0, false},
		{"\U0001F600", 3, 0, 4, false}, {"a\xF0\x9F\x98", 3, 3, 4, true}, {"\x80\x80\x80\x80\x80", 4, 4, 5, true},
	} {
		if from, to := cluster.At(x.s, x.at); from != x.from || to != x.to {
			t.Errorf("At(%+q, %d) = %d, %d", x.s, x.at, from, to)
		}
		if got := cluster.Is(x.s, x.at); got != x.is {
			t.Errorf("Is(%+q, %d) = %v", x.s, x.at, got)
		}
	}
}

// P3.1 to P3.3 with the chapter's Words: all short texts as the model.

func TestAllShortTexts(t *testing.T) {
	texts("", kinds, 4, func(s string) {
		if !t.Failed() {
			check(t, s, clusters(s))
		}
	})
}

func TestLongerTextsOfFewKinds(t *testing.T) {
	for _, parts := range [][]string{
		{"\U0001F1E6", "\u0301", "\x80", "a"},
		{"\U0001F469", "\u200D", "\u0301", "a"},
		{"\u1100", "\u1161", "\u11A8", "\u0301"},
		{"\r", "\n", "\u0301", "a"},
	} {
		texts("", parts, 7, func(s string) {
			if !t.Failed() {
				check(t, s, clusters(s))
			}
		})
	}
}

// telling is the characters at which a stretch of one kind, of one width or of a syllable's parts begins or ends, with their neighbours, and every syllable.
func telling() []rune {
	l := []rune{0, api.Bad, 0x10FFFF, 0x10FF, 0x1100, 0x115F, 0x1160, 0x11A7, 0x11A8, 0x11FF, 0x1200, 0x1F1E5, 0x1F1E6, 0x1F1FF, 0x1F200}
	for table, values := range map[int8]int{api.TabKind: api.KNone, api.TabWide: 3} {
		for value := range values + 1 {
			for _, s := range class.Spans(table, value) {
				l = append(l, s.From-1, s.From, s.To, s.To+1)
			}
		}
	}
	for r := rune(0xABFF); r <= 0xD7A4; r++ {
		l = append(l, r)
	}
	slices.Sort(l)
	return slices.Compact(l)
}

func TestEveryCharacterThatTells(t *testing.T) {
	for _, r := range telling() {
		c := string([]rune{r})
		for _, part := range kinds {
			for _, s := range []string{part + c, c + part, c + "\u200D" + part, part + "\u200D" + c} {
				check(t, s, clusters(s))
			}
		}
		if t.Failed() {
			t.Fatalf("of %x", r)
		}
	}
}
