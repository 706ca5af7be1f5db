package scan_test

import (
	"math"
	"slices"
	"strings"
	"sync"
	"testing"

	"shuttle/api"
	"shuttle/scan"
)

// broken are beginnings that the next byte breaks, and first bytes with second ones that their row of the table rules out: all of their bytes but an a at the end are bad.
var broken = []string{
	"\xC2a", "\xDFa", "\xE4a", "\xE4\xB8a", "\xF0a", "\xF0\x90a", "\xF0\x90\x80a",
	"\xE0\x80", "\xE0\x9F\xBF", "\xED\xA0\x80", "\xED\xBF\xBF",
	"\xF0\x80\x80\x80", "\xF0\x8F\xBF\xBF", "\xF4\x90\x80\x80", "\xF4\xBF\xBF\xBF",
	"\xC0\x80", "\xC1\xBF", "\xF5\x80\x80\x80", "\xF8\x88\x80\x80\x80", "\xFE\xFF", "\x80", "\xBF\xBF",
}

// ends are the first and last characters of the table's rows.
var ends = []struct {
	s string
	r rune
}{
	{"\x00", 0}, {"\x7F", 0x7F}, {"\xC2\x80", 0x80}, {"\xDF\xBF", 0x7FF},
	{"\xE0\xA0\x80", 0x800}, {"\xE0\xBF\xBF", 0xFFF}, {"\xE1\x80\x80", 0x1000}, {"\xEC\xBF\xBF", 0xCFFF},
	{"\xED\x80\x80", 0xD000}, {"\xED\x9F\xBF", 0xD7FF}, {"\xEE\x80\x80", 0xE000}, {"\xEF\xBF\xBF", 0xFFFF},
	{"\xF0\x90\x80\x80", 0x10000}, {"\xF0\xBF\xBF\xBF", 0x3FFFF}, {"\xF1\x80\x80\x80", 0x40000}, {"\xF3\xBF\xBF\xBF", 0xFFFFF},
	{"\xF4\x80\x80\x80", 0x100000}, {"\xF4\x8F\xBF\xBF", 0x10FFFF}, {"\xEF\xBF\xBD", 0xFFFD},
}

// P1.1

func TestNext(t *testing.T) {
	for _, x := range []struct {
		s string
		r rune
		n int
	}{
		{"\xC3\xA9", 0xE9, 2}, {"\xC3", api.Bad, 1}, {"\xEF\xBF\xBD", api.Bad, 3}, {"", api.Bad, 0},
		{"\xE4\xB8", api.Bad, 1}, {"ab", 'a', 1}, {"\xE4\xB8\x96a", 0x4E16, 3}, {"\xA9a", api.Bad, 1},
		{"\xF0\x9F\x98\x80\x80", 0x1F600, 4},
	} {
		if r, n := scan.Next(x.s); r != x.r || n != x.n {
			t.Errorf("Next(% x) = %x, %d", x.s, r, n)
		}
	}
}

func TestLast(t *testing.T) {
	for _, x := range []struct {
		s string
		r rune
		n int
	}{
		{"\xE4\xB8", api.Bad, 1}, {"a\xC3\xA9", 0xE9, 2}, {"a\xA9", api.Bad, 1}, {"", api.Bad, 0},
		{"ab", 'b', 1}, {"a\xEF\xBF\xBD", api.Bad, 3}, {"\xE4\xB8\x96\x80", api.Bad, 1},
		{"\x80\x80\x80\x80", api.Bad, 1}, {"\xF0\x9F\x98\x80", 0x1F600, 4}, {"\xF0\xC3\xA9", 0xE9, 2},
	} {
		if r, n := scan.Last(x.s); r != x.r || n != x.n {
			t.Errorf("Last(% x) = %x, %d", x.s, r, n)
		}
	}
}

func TestEndsOfTheTable(t *testing.T) {
	for _, x := range ends {
		if r, n := scan.Next(x.s); r != x.r || n != len(x.s) {
			t.Errorf("Next(% x) = %x, %d", x.s, r, n)
		}
		if r, n := scan.Last(x.s); r != x.r || n != len(x.s) {
			t.Errorf("Last(% x) = %x, %d", x.s, r, n)
		}
		if !scan.Valid(x.s) || scan.Count(x.s) != 1 || len(scan.Bad(x.s)) != 0 {
			t.Errorf("% x is a character", x.s)
		}
		if scan.Text([]rune{x.r}) != x.s {
			t.Errorf("Text(%x) = % x", x.r, scan.Text([]rune{x.r}))
		}
	}
}

func TestBrokenBeginnings(t *testing.T) {
	for _, s := range broken {
		bad := len(strings.TrimSuffix(s, "a"))
		want := make([]int, bad)
		for i := range want {
			want[i] = i
		}
		if r, n := scan.Next(s); r != api.Bad || n != 1 {
			t.Errorf("Next(% x) = %x, %d", s, r, n)
		}
		if got := scan.Bad(s); !slices.Equal(got, want) {
			t.Errorf("Bad(% x) = %v", s, got)
		}
		if scan.Valid(s) || scan.Count(s) != len(s) || !scan.Whole(s) {
			t.Errorf("% x: %v, %d, %v", s, scan.Valid(s), scan.Count(s), scan.Whole(s))
		}
	}
}

// P1.2

func TestWhole(t *testing.T) {
	for s, want := range map[string]bool{
		"": false, "\xE4\xB8": false, "\xE4": false, "\xC3\xA9": true, "\xFF": true, "\xED\xA0": true, "ab": true,
		"a": true, "\x80": true, "\xC1": true, "\xC2": false, "\xE0\xA0": false, "\xE0\x9F": true, "\xED\x9F": false,
		"\xF0": false, "\xF0\x90": false, "\xF0\x90\x80": false, "\xF0\x8F": true, "\xF0\x90\xC0": true,
		"\xF4\x8F": false, "\xF4\x90": true, "\xF5": true, "\xE4\xE4": true, "a\xE4": true, "\xEF\xBF": false,
		"\xEF\xBF\xBD": true, "\xE4\xB8\x96\xE4": true, "\xF4\x8F\xBF\xBF": true,
	} {
		if scan.Whole(s) != want {
			t.Errorf("Whole(% x) = %v", s, !want)
		}
	}
}

// P1.3

func TestValidCountBad(t *testing.T) {
	for _, x := range []struct {
		s   string
		n   int
		bad []int
	}{
		{"", 0, nil}, {"abc", 3, nil}, {"\xED\xA0\x80", 3, []int{0, 1, 2}}, {"a\xED\xA0\x80b", 5, []int{1, 2, 3}},
		{"\xC3\xA9\xC3", 2, []int{2}}, {"\xFF\xC3\xA9", 2, []int{0}}, {"a\x00\xE4\xB8\x96", 3, nil},
		{"\xEF\xBF\xBD", 1, nil}, {"\xEF\xBF\xBD\xFF\xEF\xBF\xBD", 3, []int{3}}, {"\xEF\xEF\xBF\xBD", 2, []int{0}},
		{"\xEF\xBF\xEF\xBF\xBD\xBD", 4, []int{0, 1, 5}}, {"\xEF\xBF", 2, []int{0, 1}}, {"\xBF\xBD", 2, []int{0, 1}},
	} {
		if got := scan.Valid(x.s); got != (len(x.bad) == 0) {
			t.Errorf("Valid(% x) = %v", x.s, got)
		}
		if got := scan.Count(x.s); got != x.n {
			t.Errorf("Count(% x) = %d", x.s, got)
		}
		if got := scan.Bad(x.s); !slices.Equal(got, x.bad) {
			t.Errorf("Bad(% x) = %v", x.s, got)
		}
	}
}

// P1.4

func TestRunesTextClean(t *testing.T) {
	if got := scan.Runes("a\xFF\xC3\xA9"); !slices.Equal(got, []rune{0x61, 0xFFFD, 0xE9}) {
		t.Errorf("Runes: %x", got)
	}
	if got := scan.Text([]rune{0x61, -1, 0xD800, 0x110000}); got != "a\xEF\xBF\xBD\xEF\xBF\xBD\xEF\xBF\xBD" {
		t.Errorf("Text: % x", got)
	}
	if got := scan.Clean("\xFF"); got != "\xEF\xBF\xBD" {
		t.Errorf("Clean: % x", got)
	}
	if got := scan.Clean("a\xE4\xB8b\xEF\xBF\xBD"); got != "a\xEF\xBF\xBD\xEF\xBF\xBDb\xEF\xBF\xBD" {
		t.Errorf("Clean: % x", got)
	}
	if len(scan.Runes("")) != 0 || scan.Text(nil) != "" || scan.Text([]rune{}) != "" || scan.Clean("") != "" {
		t.Error("of nothing comes nothing")
	}
}

func TestTextOfWhatIsNoCharacter(t *testing.T) {
	for _, r := range []rune{-1, math.MinInt32, math.MaxInt32, 0xD800, 0xDABC, 0xDFFF, 0x110000, 0x200000, -0x61} {
		if got := scan.Text([]rune{'<', r, '>'}); got != "<\xEF\xBF\xBD>" {
			t.Errorf("Text(%x) = % x", r, got)
		}
	}
}

func TestTextOfEveryNumber(t *testing.T) {
	for r := rune(-2); r <= 0x110002; r++ {
		want := bytesOf(r)
		if got := scan.Text([]rune{r}); got != want {
			t.Fatalf("Text(%x) = % x", r, got)
		}
		if n, size := scan.Next(want); size != len(want) || n != r && n != api.Bad {
			t.Fatalf("Next(% x) = %x, %d", want, n, size)
		}
	}
}

// P1.5

func TestAllAndBack(t *testing.T) {
	places, runes := []int{0, 1, 2, 3}, []rune{0x61, 0xFFFD, 0xFFFD, 0x62}
	at, got := collect(scan.All("a\xE4\xB8b"), math.MaxInt)
	if !slices.Equal(at, places) || !slices.Equal(got, runes) {
		t.Errorf("All: %v %x", at, got)
	}
	slices.Reverse(places)
	slices.Reverse(runes)
	at, got = collect(scan.Back("a\xE4\xB8b"), math.MaxInt)
	if !slices.Equal(at, places) || !slices.Equal(got, runes) {
		t.Errorf("Back: %v %x", at, got)
	}
	at, got = collect(scan.All("\xC3\xA9\xE4\xB8\x96\xF0\x9F\x98\x80\xFFz"), math.MaxInt)
	if !slices.Equal(at, []int{0, 2, 5, 9, 10}) || !slices.Equal(got, []rune{0xE9, 0x4E16, 0x1F600, 0xFFFD, 'z'}) {
		t.Errorf("All: %v %x", at, got)
	}
}

// collect goes over at most n places.
func collect(seq func(func(int, rune) bool), n int) (places []int, runes []rune) {
	seq(func(at int, r rune) bool {
		places, runes = append(places, at), append(runes, r)
		return len(places) < n
	})
	return places, runes
}

func TestIteratorsLeftEarlyAndGoneOverAgain(t *testing.T) {
	s := "a\xC3\xA9\xFF\xEF\xBF\xBDz"
	for name, seq := range map[string]func(func(int, rune) bool){"All": scan.All(s), "Back": scan.Back(s)} {
		places, runes := collect(seq, math.MaxInt)
		if len(places) != 5 {
			t.Fatalf("%s: %v", name, places)
		}
		for n := 1; n <= 5; n++ {
			at, got := collect(seq, n)
			if !slices.Equal(at, places[:n]) || !slices.Equal(got, runes[:n]) {
				t.Errorf("%s left after %d: %v %x", name, n, at, got)
			}
		}
		if at, got := collect(seq, math.MaxInt); !slices.Equal(at, places) || !slices.Equal(got, runes) {
			t.Errorf("%s gone over again: %v %x", name, at, got)
		}
	}
}

func TestIteratorsWithinThemselves(t *testing.T) {
	for name, seq := range map[string]func(func(int, rune) bool){"All": scan.All("a\xFFb"), "Back": scan.Back("a\xFFb")} {
		n := 0
		for range seq {
			for range seq {
				n++
			}
		}
		if n != 9 {
			t.Errorf("%s within itself: %d", name, n)
		}
	}
}

func TestIteratorsOfNothing(t *testing.T) {
	if scan.All("") == nil || scan.Back("") == nil {
		t.Fatal("an iterator is never nil")
	}
	for at := range scan.All("") {
		t.Error("All", at)
	}
	for at := range scan.Back("") {
		t.Error("Back", at)
	}
}

// P1.7

func TestThereAndBackOfNumbers(t *testing.T) {
	var l []rune
	for r := rune(0); r <= 0x10FFFF; r++ {
		if r < 0xD800 || r > 0xDFFF {
			l = append(l, r)
		}
	}
	s := scan.Text(l)
	if !slices.Equal(scan.Runes(s), l) || !scan.Valid(s) || scan.Count(s) != len(l) {
		t.Error("Runes of Text of all characters")
	}
	if scan.Clean(s) != s {
		t.Error("Clean of a valid text")
	}
}

func TestThereAndBackOfTexts(t *testing.T) {
	texts("", edges, 3, func(s string) {
		clean := scan.Clean(s)
		if scan.Valid(s) && scan.Text(scan.Runes(s)) != s {
			t.Errorf("Text(Runes(% x))", s)
		}
		if !scan.Valid(clean) || scan.Count(clean) != scan.Count(s) || scan.Clean(clean) != clean {
			t.Errorf("Clean(% x) = % x", s, clean)
		}
	})
}

func TestParted(t *testing.T) {
	s := "a\xC3\xA9\xE4\xB8\xFF\xE4\xB8\x96\xF0\x9F\x98\x80\xEF\xBF\xBD\xF0\x9F"
	whole := scan.Runes(s)
	for at := range scan.All(s) {
		if got := append(scan.Runes(s[:at]), scan.Runes(s[at:])...); !slices.Equal(got, whole) {
			t.Errorf("parted at %d: %x", at, got)
		}
	}
}

// P1.8

func TestFromTheEnd(t *testing.T) {
	texts("", edges, 3, func(s string) {
		places, runes := collect(scan.All(s), math.MaxInt)
		for end := len(s); end > 0; {
			r, n := scan.Last(s[:end])
			k := len(places) - 1
			if n < 1 || n > end || k < 0 || places[k] != end-n || runes[k] != r {
				t.Fatalf("Last(% x) = %x, %d", s[:end], r, n)
			}
			end, places, runes = end-n, places[:k], runes[:k]
		}
		if len(places) != 0 {
			t.Errorf("from the end of % x: %v", s, places)
		}
	})
}

// All rules together: nothing is changed that was handed in, nothing is shared, nothing is left behind.

func TestTextKeepsNumbers(t *testing.T) {
	room := []rune{'a', -1, 0xD800, 'x', 'y'}
	before := slices.Clone(room)
	s := scan.Text(room[:3])
	if !slices.Equal(room, before) {
		t.Errorf("changed to %x", room)
	}
	room[0] = 'z'
	if s != "a\uFFFD\uFFFD" {
		t.Errorf("% x", s)
	}
}

func TestAnswersAreNew(t *testing.T) {
	s := "a\xFF\xC3\xA9\xFF"
	runes, bad := scan.Runes(s), scan.Bad(s)
	for i := range runes[:cap(runes)] {
		runes[:cap(runes)][i] = 'x'
	}
	for i := range bad[:cap(bad)] {
		bad[:cap(bad)][i] = -1
	}
	if !slices.Equal(scan.Runes(s), []rune{'a', 0xFFFD, 0xE9, 0xFFFD}) || !slices.Equal(scan.Bad(s), []int{1, 4}) {
		t.Error("what is handed out is new memory")
	}
}

func TestManyAtOnce(t *testing.T) {
	s := strings.Repeat("a\xE4\xB8\x96\xFF\xF0\x9F\x98\x80\xE4\xB8", 20)
	want := scan.Runes(s)
	var group sync.WaitGroup
	for range 8 {
		group.Go(func() {
			r := scan.New()
			var told []rune
			for i := range len(s) {
				told = append(told, r.Feed([]byte{s[i]})...)
			}
			told = append(told, r.End()...)
			if !slices.Equal(told, want) || !slices.Equal(scan.Runes(s), want) {
				t.Error("answers hang on their arguments alone")
			}
		})
	}
	group.Wait()
}

func TestLongTexts(t *testing.T) {
	for _, part := range []string{"\x80", "\xF0\x90\x80", "\xE4\xB8\x96", "\xC3\xA9\xFF"} {
		s := strings.Repeat(part, api.MaxText/len(part))
		want := len(through(part)) * (api.MaxText / len(part))
		n := 0
		for range scan.Back(s) {
			n++
		}
		if scan.Count(s) != want || n != want || len(scan.Runes(s)) != want {
			t.Errorf("% x: %d, %d", part, scan.Count(s), n)
		}
	}
}
