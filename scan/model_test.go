package scan_test

import (
	"slices"
	"testing"

	"shuttle/api"
	"shuttle/scan"
)

// The model is the chapter's table, row by row, and shares nothing with the package.

type span struct{ from, to byte }

var rest = span{0x80, 0xBF}

var table = [][]span{
	{{0x00, 0x7F}},
	{{0xC2, 0xDF}, rest},
	{{0xE0, 0xE0}, {0xA0, 0xBF}, rest},
	{{0xE1, 0xEC}, rest, rest},
	{{0xEE, 0xEE}, rest, rest},
	{{0xEF, 0xEF}, rest, rest},
	{{0xED, 0xED}, {0x80, 0x9F}, rest},
	{{0xF0, 0xF0}, {0x90, 0xBF}, rest, rest},
	{{0xF1, 0xF3}, rest, rest, rest},
	{{0xF4, 0xF4}, {0x80, 0x8F}, rest, rest},
}

// agree tells how many bytes of s, from its first on, the spans of the row let in.
func agree(s string, row []span) int {
	n := 0
	for n < len(s) && n < len(row) && row[n].from <= s[n] && s[n] <= row[n].to {
		n++
	}
	return n
}

// size tells how many bytes the character has that s begins with; 0: there is none.
func size(s string) int {
	for _, row := range table {
		if agree(s, row) == len(row) {
			return len(row)
		}
	}
	return 0
}

func beginning(s string) bool {
	for _, row := range table {
		if s != "" && len(s) < len(row) && agree(s, row) == len(s) {
			return true
		}
	}
	return false
}

// number puts together the bits of a character that its row does not name.
func number(c string) rune {
	first := []byte{0x7F, 0x1F, 0x0F, 0x07}[len(c)-1]
	r := rune(c[0] & first)
	for i := 1; i < len(c); i++ {
		r = r*64 + rune(c[i]-0x80)
	}
	return r
}

type step struct {
	at, n int
	r     rune
	bad   bool
}

func through(s string) []step {
	var l []step
	for at := 0; at < len(s); {
		x := step{at: at, n: 1, r: api.Bad, bad: true}
		if n := size(s[at:]); n > 0 {
			x = step{at: at, n: n, r: number(s[at : at+n])}
		}
		l = append(l, x)
		at += x.n
	}
	return l
}

func numbers(l []step) []rune {
	var runes []rune
	for _, x := range l {
		runes = append(runes, x.r)
	}
	return runes
}

// bytesOf is the bytes of a character's number, and those of FFFD of any other one's.
func bytesOf(r rune) string {
	switch {
	case r < 0 || r > 0x10FFFF || r >= 0xD800 && r <= 0xDFFF:
		return "\xEF\xBF\xBD"
	case r < 0x80:
		return string([]byte{byte(r)})
	case r < 0x800:
		return string([]byte{0xC0 + byte(r>>6), 0x80 + byte(r&63)})
	case r < 0x10000:
		return string([]byte{0xE0 + byte(r>>12), 0x80 + byte(r>>6&63), 0x80 + byte(r&63)})
	}
	return string([]byte{0xF0 + byte(r>>18), 0x80 + byte(r>>12&63), 0x80 + byte(r>>6&63), 0x80 + byte(r&63)})
}

// Every byte at which a column of the table begins or ends, with its neighbours.
var edges = []byte{0x00, 0x41, 0x7F, 0x80, 0x8F, 0x90, 0x9F, 0xA0, 0xBD, 0xBF, 0xC0, 0xC1, 0xC2, 0xDF, 0xE0, 0xE1, 0xEC, 0xED, 0xEE, 0xEF, 0xF0, 0xF1, 0xF3, 0xF4, 0xF5, 0xFF}

// texts hands out s and all texts that have up to n of the bytes behind it.
func texts(s string, bytes []byte, n int, f func(s string)) {
	f(s)
	if n == 0 {
		return
	}
	for _, b := range bytes {
		texts(s+string([]byte{b}), bytes, n-1, f)
	}
}

func TestModelKnowsAllTexts(t *testing.T) {
	n := 0
	seen := map[string]int{}
	texts("", []byte("abc"), 3, func(s string) { n, seen[s] = n+1, 1 })
	if n != 1+3+9+27 || len(seen) != n {
		t.Error(n, len(seen))
	}
}

func TestEveryCallAsTheTable(t *testing.T) {
	texts("", edges, 4, func(s string) {
		if !t.Failed() {
			checkEnds(t, s)
			checkWhole(t, s)
			checkCounts(t, s)
			checkIterators(t, s)
		}
	})
}

func TestBadBytesWithinLongerTexts(t *testing.T) {
	front := ""
	for _, x := range ends {
		for _, bad := range append(broken, "") {
			for _, y := range ends {
				s := front + bad + y.s
				checkEnds(t, s)
				checkWhole(t, s)
				checkCounts(t, s)
				checkIterators(t, s)
			}
		}
		front += x.s
	}
}

func TestEveryPairOfBytesAsTheTable(t *testing.T) {
	for a := range 256 {
		for b := range 256 {
			for _, tail := range []string{"", "\x80", "\x80\x80", "\xBF\xBF", "a\x80", "\x80a"} {
				s := string([]byte{byte(a), byte(b)}) + tail
				if !t.Failed() {
					checkEnds(t, s)
					checkWhole(t, s)
					checkCounts(t, s)
					checkIterators(t, s)
				}
			}
		}
	}
}

func checkEnds(t *testing.T, s string) {
	first, last := step{r: api.Bad}, step{r: api.Bad}
	if l := through(s); len(l) > 0 {
		first, last = l[0], l[len(l)-1]
	}
	if r, n := scan.Next(s); r != first.r || n != first.n {
		t.Errorf("Next(% x) = %x, %d", s, r, n)
	}
	if r, n := scan.Last(s); r != last.r || n != last.n {
		t.Errorf("Last(% x) = %x, %d", s, r, n)
	}
}

func checkWhole(t *testing.T, s string) {
	if got, want := scan.Whole(s), s != "" && !beginning(s); got != want {
		t.Errorf("Whole(% x) = %v", s, got)
	}
}

func checkCounts(t *testing.T, s string) {
	l := through(s)
	var bad []int
	clean := ""
	for _, x := range l {
		if x.bad {
			bad = append(bad, x.at)
		}
		clean += bytesOf(x.r)
	}
	if got := scan.Valid(s); got != (len(bad) == 0) {
		t.Errorf("Valid(% x) = %v", s, got)
	}
	if got := scan.Count(s); got != len(l) {
		t.Errorf("Count(% x) = %d", s, got)
	}
	if got := scan.Bad(s); !slices.Equal(got, bad) {
		t.Errorf("Bad(% x) = %v", s, got)
	}
	if got := scan.Runes(s); !slices.Equal(got, numbers(l)) {
		t.Errorf("Runes(% x) = %x", s, got)
	}
	if got := scan.Clean(s); got != clean {
		t.Errorf("Clean(% x) = % x", s, got)
	}
}

func checkIterators(t *testing.T, s string) {
	l := through(s)
	i := 0
	for at, r := range scan.All(s) {
		if i == len(l) || at != l[i].at || r != l[i].r {
			t.Fatalf("All(% x): %d, %x as number %d", s, at, r, i)
		}
		i++
	}
	if i != len(l) {
		t.Errorf("All(% x) ends after %d", s, i)
	}
	for at, r := range scan.Back(s) {
		i--
		if i < 0 || at != l[i].at || r != l[i].r {
			t.Fatalf("Back(% x): %d, %x as number %d", s, at, r, i)
		}
	}
	if i != 0 {
		t.Errorf("Back(% x) ends %d ahead of the beginning", s, i)
	}
}
