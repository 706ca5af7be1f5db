package scan_test

import (
	"slices"
	"strings"
	"testing"

	"shuttle/api"
	"shuttle/scan"
)

// P1.6

func TestReaderHoldsBeginnings(t *testing.T) {
	r := scan.New()
	if r.Held() != 0 || len(r.End()) != 0 {
		t.Error("a new one holds none")
	}
	for _, x := range []struct {
		b    string
		want []rune
		held int
	}{
		{"a\xE4", []rune{0x61}, 1}, {"\xB8", nil, 2}, {"\x96\xE4", []rune{0x4E16}, 1}, {"", nil, 1},
	} {
		if got := r.Feed([]byte(x.b)); !slices.Equal(got, x.want) || r.Held() != x.held {
			t.Errorf("Feed(% x) = %x, held %d", x.b, got, r.Held())
		}
	}
	if got := r.End(); !slices.Equal(got, []rune{api.Bad}) || r.Held() != 0 {
		t.Errorf("End = %x, held %d", got, r.Held())
	}
}

func TestReaderBreaksBeginnings(t *testing.T) {
	for _, x := range []struct {
		first, next string
		want        []rune
		held        int
	}{
		{"\xE4\xB8", "a", []rune{api.Bad, api.Bad, 'a'}, 0},
		{"\xF0\x90\x80", "a", []rune{api.Bad, api.Bad, api.Bad, 'a'}, 0},
		{"\xE4\xB8", "\xE4", []rune{api.Bad, api.Bad}, 1},
		{"\xF0\x9F\x98", "\xF0\x9F\x98", []rune{api.Bad, api.Bad, api.Bad}, 3},
		{"\xC3", "\xC3", []rune{api.Bad}, 1},
		{"\xC3", "\xFF", []rune{api.Bad, api.Bad}, 0},
		{"\xE0", "\x9F", []rune{api.Bad, api.Bad}, 0},
		{"\xED", "\xA0", []rune{api.Bad, api.Bad}, 0},
		{"\xF0", "\x8F", []rune{api.Bad, api.Bad}, 0},
		{"\xF4", "\x90", []rune{api.Bad, api.Bad}, 0},
		{"\xE0", "\xA0", nil, 2}, {"\xED", "\x9F", nil, 2}, {"\xF0", "\x90", nil, 2}, {"\xF4", "\x8F", nil, 2},
		{"\xEF\xBF", "\xBD", []rune{api.Bad}, 0},
		{"\xEF\xBF", "\xEF\xBF\xBD\xEF\xBF", []rune{api.Bad, api.Bad, api.Bad}, 2},
	} {
		r := scan.New()
		if got := r.Feed([]byte(x.first)); len(got) != 0 || r.Held() != len(x.first) {
			t.Errorf("Feed(% x) = %x, held %d", x.first, got, r.Held())
		}
		if got := r.Feed([]byte(x.next)); !slices.Equal(got, x.want) || r.Held() != x.held {
			t.Errorf("Feed(% x) behind % x = %x, held %d", x.next, x.first, got, r.Held())
		}
	}
}

func TestReaderTellsAtOnce(t *testing.T) {
	for s, want := range map[string][]rune{
		"\xF0\x80": {api.Bad, api.Bad}, "\x80": {api.Bad}, "\xFF": {api.Bad}, "\xC3\xA9": {0xE9}, "\xC1": {api.Bad},
		"\xEF\xBF\xBD": {api.Bad}, "\xF4\x8F\xBF\xBF": {0x10FFFF}, "ab": {'a', 'b'},
	} {
		r := scan.New()
		if got := r.Feed([]byte(s)); !slices.Equal(got, want) || r.Held() != 0 {
			t.Errorf("Feed(% x) = %x, held %d", s, got, r.Held())
		}
	}
}

func TestReaderEnds(t *testing.T) {
	for _, s := range []string{"\xC3", "\xE4", "\xE4\xB8", "\xF0", "\xF0\x9F", "\xF0\x9F\x98", "\xEF\xBF"} {
		r := scan.New()
		r.Feed([]byte(s))
		want := slices.Repeat([]rune{api.Bad}, len(s))
		if got := r.End(); !slices.Equal(got, want) || r.Held() != 0 || len(r.End()) != 0 {
			t.Errorf("End behind % x = %x, held %d", s, got, r.Held())
		}
		if got := r.Feed([]byte("\x96\xC3\xA9")); !slices.Equal(got, []rune{api.Bad, 0xE9}) {
			t.Errorf("Feed behind End = %x", got)
		}
	}
}

func TestNoReader(t *testing.T) {
	var r *scan.Reader
	if len(r.Feed([]byte("a\xE4"))) != 0 || r.Held() != 0 || len(r.End()) != 0 || len(r.Feed(nil)) != 0 {
		t.Error("no reader answers zeros")
	}
}

func TestReaderIsFedNothing(t *testing.T) {
	r := scan.New()
	for _, held := range []string{"", "\xE4", "\xB8"} {
		r.Feed([]byte(held))
		n := r.Held()
		if len(r.Feed(nil)) != 0 || len(r.Feed([]byte{})) != 0 || r.Held() != n {
			t.Errorf("nothing changes nothing: %d, %d", n, r.Held())
		}
	}
	if got := r.Feed([]byte("\x96")); !slices.Equal(got, []rune{0x4E16}) {
		t.Errorf("Feed = %x", got)
	}
}

func TestReadersStandAlone(t *testing.T) {
	a, b := scan.New(), scan.New()
	a.Feed([]byte("\xE4\xB8"))
	if b.Held() != 0 {
		t.Error("the other one holds", b.Held())
	}
	if got := b.Feed([]byte("\xC3")); len(got) != 0 || b.Held() != 1 || a.Held() != 2 {
		t.Errorf("%x, %d, %d", got, b.Held(), a.Held())
	}
	if got := a.Feed([]byte("\x96")); !slices.Equal(got, []rune{0x4E16}) || b.Held() != 1 {
		t.Errorf("%x, %d", got, b.Held())
	}
}

func TestFeedKeepsNoPiece(t *testing.T) {
	r := scan.New()
	r.Feed([]byte("\xE4"))
	room := []byte("\xB8\x96a\xF0\x9F\x98..........")
	before := slices.Clone(room)
	first := r.Feed(room[:6])
	if !slices.Equal(room, before) {
		t.Errorf("the piece was changed to % x", room)
	}
	for i := range room {
		room[i] = '!'
	}
	second := r.Feed([]byte("\x80"))
	if !slices.Equal(first, []rune{0x4E16, 'a'}) || !slices.Equal(second, []rune{0x1F600}) {
		t.Errorf("%x, %x", first, second)
	}
}

func TestFeedSharesNoAnswer(t *testing.T) {
	r := scan.New()
	first := r.Feed([]byte("abc\xE4"))
	for i := range first[:cap(first)] {
		first[:cap(first)][i] = 'x'
	}
	second := r.Feed([]byte("\xB8\x96de\xE4\xB8"))
	if !slices.Equal(second, []rune{0x4E16, 'd', 'e'}) {
		t.Errorf("%x", second)
	}
	last := r.End()
	for i := range last[:cap(last)] {
		last[:cap(last)][i] = 'x'
	}
	if !slices.Equal(second, []rune{0x4E16, 'd', 'e'}) || first[0] != 'x' {
		t.Errorf("%x, %x", first, second)
	}
	r.Feed([]byte("\xE4\xB8"))
	if got := r.End(); !slices.Equal(got, []rune{api.Bad, api.Bad}) {
		t.Errorf("%x", got)
	}
}

// P1.9

func TestAnyPieces(t *testing.T) {
	few := []byte{0x41, 0x80, 0x9F, 0xA0, 0xBF, 0xC3, 0xE0, 0xE4, 0xED, 0xF0, 0xF4, 0xFF}
	texts("", few, 4, func(s string) {
		for cuts := range 1 << max(len(s)-1, 0) {
			if !t.Failed() {
				checkPieces(t, scan.New(), parts(s, cuts))
			}
		}
	})
}

func TestAnyPiecesOfALongerText(t *testing.T) {
	s := "a\xC3\xA9\xE4\xB8\xF0\x9F\x98\x80\xEF\xBF\xBD\xF0\x9F"
	r := scan.New()
	for cuts := range 1 << (len(s) - 1) {
		if !t.Failed() {
			checkPieces(t, r, parts(s, cuts))
		}
	}
}

func TestByteByByte(t *testing.T) {
	r := scan.New()
	texts("", edges, 4, func(s string) {
		if !t.Failed() {
			checkPieces(t, r, parts(s, 1<<len(s)-1))
		}
	})
}

// parts cuts s behind its byte i where the bit i of cuts is set.
func parts(s string, cuts int) []string {
	var l []string
	from := 0
	for i := 1; i < len(s); i++ {
		if cuts>>(i-1)&1 == 1 {
			l, from = append(l, s[from:i]), i
		}
	}
	return append(l, s[from:])
}

// checkPieces feeds the pieces to a reader that holds none, and holds what it tells against the model.
func checkPieces(t *testing.T, r *scan.Reader, pieces []string) {
	var told []rune
	s := ""
	for _, p := range pieces {
		told, s = append(told, r.Feed([]byte(p))...), s+p
		want, held := settled(s)
		if !slices.Equal(told, want) || r.Held() != held {
			t.Errorf("fed % x of %q: told %x, held %d", s, pieces, told, r.Held())
		}
	}
	told = append(told, r.End()...)
	if !slices.Equal(told, numbers(through(s))) || !slices.Equal(told, scan.Runes(s)) || r.Held() != 0 {
		t.Errorf("pieces %q: told %x, held %d", pieces, told, r.Held())
	}
}

// settled tells the numbers of s that no further byte can change, and how many bytes are left.
func settled(s string) (told []rune, held int) {
	for _, x := range through(s) {
		if beginning(s[x.at:]) {
			return told, len(s) - x.at
		}
		told = append(told, x.r)
	}
	return told, 0
}

func TestLongPieces(t *testing.T) {
	s := strings.Repeat("a\xE4\xB8\x96\xFF", 1<<16) + "\xF0\x9F"
	r := scan.New()
	told := r.Feed([]byte(s))
	if len(told) != 3<<16 || r.Held() != 2 || told[len(told)-1] != api.Bad {
		t.Error(len(told), r.Held())
	}
}
