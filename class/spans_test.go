package class_test

import (
	"math"
	"slices"
	"testing"

	"shuttle/api"
	"shuttle/class"
)

// tables is all tables, by number.
func tables() [][]line {
	l := make([][]line, 6)
	l[api.TabKind] = kindsTable()
	l[api.TabDir] = dirsTable()
	l[api.TabWide] = widthsTable()
	l[api.TabMark] = marksTable()
	l[api.TabJoin] = joinsTable()
	l[api.TabBreak] = breaksTable()
	return l
}

// P2.8

func TestSpans(t *testing.T) {
	for _, x := range []struct {
		table int8
		value int
		want  []api.Span
	}{
		{api.TabJoin, api.JoinCause, []api.Span{{From: 0x640, To: 0x640}, {From: 0x200D, To: 0x200D}}},
		{api.TabKind, api.KControl, []api.Span{{From: 0, To: 0x1F}, {From: 0x7F, To: 0x9F}}},
		{api.TabWide, 3, stretches(spread(widthsTable()), 3)},
		{api.TabJoin, 9, nil}, {77, 0, nil}, {api.TabBreak + 1, 0, nil}, {-1, 0, nil}, {api.TabMark, 26, nil}, {api.TabWide, 4, nil},
	} {
		if got := class.Spans(x.table, x.value); !slices.Equal(got, x.want) {
			t.Errorf("Spans(%d, %d) = %x, not %x", x.table, x.value, got, x.want)
		}
	}
}

func TestSpansPartAtNoCharacters(t *testing.T) {
	for _, x := range []struct {
		table         int8
		value         int
		ahead, behind api.Span
	}{
		{api.TabKind, api.KNone, api.Span{From: 0xD7A4, To: 0xD7FF}, api.Span{From: 0xE000, To: 0xF8FF}},
		{api.TabDir, api.DirL, api.Span{From: 0x309B, To: 0xD7FF}, api.Span{From: 0xE000, To: 0xFB1C}},
	} {
		got := class.Spans(x.table, x.value)
		at := slices.Index(got, x.ahead)
		if at < 0 || at+1 == len(got) || got[at+1] != x.behind {
			t.Errorf("Spans(%d, %d) = %x", x.table, x.value, got)
		}
	}
}

func TestSpansAsTheTables(t *testing.T) {
	for number, table := range tables() {
		classes := spread(table)
		for value := -2; value < 260; value++ {
			if got, want := class.Spans(int8(number), value), stretches(classes, value); !slices.Equal(got, want) {
				t.Errorf("Spans(%d, %d) = %x, not %x", number, value, got, want)
			}
		}
	}
}

func TestSpansOfNoNumber(t *testing.T) {
	for table := range 256 {
		values := []int{math.MinInt, math.MinInt + 1, -256, -255, -128, 256, 257, 1 << 16, 1<<32 + 1, math.MaxInt}
		if int8(table) < api.TabKind || int8(table) > api.TabBreak {
			values = append(values, 0, 1, 2, 3)
		}
		for _, value := range values {
			if got := class.Spans(int8(table), value); len(got) != 0 {
				t.Errorf("Spans(%d, %d) = %x", int8(table), value, got)
			}
		}
	}
}

// P2.9

func TestSpansHaveEachCharacterOnce(t *testing.T) {
	for table := int8(api.TabKind); table <= api.TabBreak; table++ {
		times := make([]int, numbers)
		for value := range 256 {
			for _, s := range class.Spans(table, value) {
				for r := s.From; r <= s.To; r++ {
					times[r]++
				}
			}
		}
		for r, n := range times {
			if isCharacter(rune(r)) != (n == 1) || n > 1 {
				t.Fatalf("the spans of table %d have %x %d times", table, r, n)
			}
		}
	}
}

// P2.8 with P2.1 to P2.6: what the calls tell of a character is the span's number.

func TestSpansAgreeWithTheCalls(t *testing.T) {
	for table, ask := range map[int8]func(r rune) int{
		api.TabKind:  func(r rune) int { return int(class.Kind(r)) },
		api.TabDir:   func(r rune) int { return int(class.Dir(r)) },
		api.TabMark:  func(r rune) int { return int(class.Mark(r)) },
		api.TabJoin:  func(r rune) int { return int(class.Join(r)) },
		api.TabBreak: func(r rune) int { return int(class.Break(r)) },
		api.TabWide: func(r rune) int {
			if class.Wide(r, false) != class.Wide(r, true) {
				return 3
			}
			return class.Wide(r, true)
		},
	} {
		for value := range 256 {
			for _, s := range class.Spans(table, value) {
				for r := s.From; r <= s.To; r++ {
					if ask(r) != value {
						t.Fatalf("table %d: %x is in a span of %d, and is asked %d", table, r, value, ask(r))
					}
				}
			}
		}
	}
}

// R3

func TestSpansAreNewMemory(t *testing.T) {
	want := stretches(spread(kindsTable()), api.KLetter)
	got := class.Spans(api.TabKind, api.KLetter)
	again := class.Spans(api.TabKind, api.KLetter)
	for i := range got[:cap(got)] {
		got[:cap(got)][i] = api.Span{From: -1, To: -1}
	}
	if !slices.Equal(again, want) || !slices.Equal(class.Spans(api.TabKind, api.KLetter), want) {
		t.Error("what is written to an answer is seen in another one")
	}
}
