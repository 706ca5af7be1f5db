package show_test

import (
	"strings"
	"testing"
	"unicode/utf8"

	"shuttle/api"
	"shuttle/class"
	"shuttle/cluster"
	"shuttle/show"
)

// mixed hands out n texts of up to 90 parts, in which one part often stands many times in a row, so that clusters become full.
func mixed(n int, f func(s string)) {
	state := uint32(1)
	draw := func(below int) int {
		state = state*1664525 + 1013904223
		return int(state>>16) % below
	}
	for range n {
		s := ""
		for left := draw(90); left > 0; {
			part, times := kinds[draw(len(kinds))], 1
			if draw(4) == 0 {
				times = 1 + draw(left)
			}
			s += strings.Repeat(part, times)
			left -= times
		}
		f(s)
	}
}

// P6.5

func checkParts(t *testing.T, s string, col int, l api.Look) {
	t.Helper()
	all := show.Wide(s, col, l)
	for p := range len(s) + 1 {
		if !cluster.Is(s, p) {
			continue
		}
		ahead := show.Wide(s[:p], col, l)
		if behind := show.Wide(s[p:], col+ahead, l); ahead+behind != all {
			t.Errorf("Wide(%+q, %d, %+v) is %d, and %d and %d if parted at %d", s, col, l, all, ahead, behind, p)
		}
	}
}

func TestWideOfParts(t *testing.T) {
	texts("", few, 3, func(s string) {
		for col := range 9 {
			checkParts(t, s, col, api.Look{Tab: 4})
		}
	})
	i := 0
	mixed(600, func(s string) {
		checkParts(t, s, i%40, looks[i%len(looks)])
		i++
	})
}

func checkCut(t *testing.T, s string, w int, l api.Look) {
	t.Helper()
	p := show.Cut(s, w, l)
	if !cluster.Is(s, p) || w < 0 && p != 0 {
		t.Errorf("Cut(%+q, %d, %+v) = %d", s, w, l, p)
	}
	if n := show.Wide(s[:p], 0, l); w >= 0 && n > w {
		t.Errorf("Cut(%+q, %d, %+v) = %d: %d columns", s, w, l, p, n)
	}
	if p < len(s) {
		if n := show.Wide(s[:p+cluster.Next(s[p:])], 0, l); n <= w {
			t.Errorf("Cut(%+q, %d, %+v) = %d: with the next one %d columns", s, w, l, p, n)
		}
	}
}

func TestCutIsTheGreatestBorder(t *testing.T) {
	i := 0
	mixed(200, func(s string) {
		l := looks[i%len(looks)]
		for w := -2; w <= show.Wide(s, 0, l)+2; w++ {
			checkCut(t, s, w, l)
		}
		i++
	})
}

func TestWideAndPlainOfMixedTexts(t *testing.T) {
	i := 0
	mixed(2000, func(s string) {
		checkWide(t, s, columns[i%len(columns)], looks[i%len(looks)])
		if got, want := show.Plain(s), plainOf(s); got != want {
			t.Errorf("Plain(%+q) = %+q, not %+q", s, got, want)
		}
		i++
	})
}

// P6.6

// isPlain tells whether s is valid and has no control and no sign but the two that belong to clusters.
func isPlain(s string) bool {
	for _, r := range s {
		switch class.Kind(r) {
		case api.KControl:
			return false
		case api.KFormat:
			if r != 0x200C && r != 0x200D {
				return false
			}
		}
	}
	return utf8.ValidString(s)
}

func TestPlainIsPlain(t *testing.T) {
	check := func(s string) {
		if got := show.Plain(s); !isPlain(got) {
			t.Errorf("Plain(%+q) = %+q", s, got)
		}
	}
	for r := range rune(numbers) {
		check(string(r))
	}
	for b := range 0x100 {
		check("a" + string([]byte{byte(b)}) + "\u0301")
	}
	mixed(3000, check)
}

func checkPlainAtOnce(t *testing.T, s string) {
	t.Helper()
	once := show.Plain(s)
	if again := show.Plain(once); again != once {
		t.Errorf("Plain of Plain(%+q) = %+q, not %+q", s, again, once)
	}
}

func TestPlainAtOnce(t *testing.T) {
	texts("", kinds, 3, func(s string) { checkPlainAtOnce(t, s) })
	texts("", few, 5, func(s string) { checkPlainAtOnce(t, s) })
	for r := range rune(numbers) {
		checkPlainAtOnce(t, string(r))
	}
	for _, mark := range []string{"\u0301", "\u200D"} {
		for n := range 70 {
			marks := strings.Repeat(mark, n)
			for _, s := range []string{marks, "a" + marks, "\n" + marks + "b", "\xFF" + marks + "\t" + marks, "\u1161" + marks + "b"} {
				checkPlainAtOnce(t, s)
			}
		}
	}
	mixed(3000, func(s string) { checkPlainAtOnce(t, s) })
}

// P6.7

func TestBadBytesAndControlsAreShownInAscii(t *testing.T) {
	var shownSo []string
	for b := 0x80; b <= 0xFF; b++ {
		shownSo = append(shownSo, string([]byte{byte(b)}))
	}
	for _, x := range class.Spans(api.TabKind, api.KControl) {
		for r := x.From; r <= x.To; r++ {
			shownSo = append(shownSo, string(r))
		}
	}
	for _, c := range append(shownSo, "\r\n") {
		for _, l := range looks {
			shown, wide := show.Text(c, 3, l)
			for _, r := range shown {
				if r < 0x20 || r > 0x7E {
					t.Errorf("Text(%+q, 3, %+v) = %+q", c, l, shown)
				}
			}
			if len(shown) != wide {
				t.Errorf("Text(%+q, 3, %+v) = %+q, %d", c, l, shown, wide)
			}
		}
	}
}

// R1: texts that are long are gone through in steps as many as they have bytes.

func TestLongTexts(t *testing.T) {
	for _, x := range []struct {
		part string
		wide int
	}{{"a", 1}, {"\t", 8}, {"\xFF", 4}, {"\u4E16", 2}, {"\n", 0}, {"\x01", 2}, {"\U0001F1E6\U0001F1E7", 2}, {"\u1161", 0}} {
		n := 1 << 20 / len(x.part)
		s := strings.Repeat(x.part, n)
		if got := show.Wide(s, 0, api.Look{}); got != n*x.wide {
			t.Errorf("Wide of %d times %+q = %d", n, x.part, got)
		}
		if got := show.Cut(s, n*x.wide-1, api.Look{}); x.wide > 0 && got != len(s)-len(x.part) {
			t.Errorf("Cut of %d times %+q = %d", n, x.part, got)
		}
		if got := show.Plain(s); got != strings.Repeat(plainOf(x.part), n) {
			t.Errorf("Plain of %d times %+q has %d bytes", n, x.part, len(got))
		}
		want, _ := textOf(x.part, 0, api.Look{Raw: true})
		if shown, _ := show.Text(s, 0, api.Look{Raw: true}); shown != want {
			t.Errorf("Text of %d times %+q = %+q", n, x.part, shown)
		}
	}
}

// R2

func TestManyAskAtOneTime(t *testing.T) {
	s := strings.Join(kinds, "")
	ask := func() string {
		shown, wide := show.Text(s[1:], 0, api.Look{Raw: true})
		return show.Plain(s) + shown + strings.Repeat("|", wide+show.Wide(s, 3, api.Look{Tab: 3})+show.Cut(s, 20, api.Look{}))
	}
	want := ask()
	done := make(chan string)
	for range 4 {
		go func() {
			for range 100 {
				ask()
			}
			done <- ask()
		}()
	}
	for range 4 {
		if got := <-done; got != want {
			t.Errorf("%+q, not %+q", got, want)
		}
	}
}
