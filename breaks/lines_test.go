package breaks_test

import (
	"slices"
	"strings"
	"testing"

	"shuttle/api"
	"shuttle/breaks"
)

func toldLines(s string) []line {
	var all []line
	for at, text := range breaks.Lines(s) {
		all = append(all, line{at, text})
	}
	return all
}

// checkLines holds Lines against the lines that s is to have.
func checkLines(t *testing.T, s string, want []line) {
	t.Helper()
	if got := toldLines(s); !slices.Equal(got, want) {
		t.Errorf("Lines(%s) = %s, not %s", brief(line{0, s}), brief(got...), brief(want...))
	}
}

// bothLines holds Lines of what the texts are together against them, and them against the model.
func bothLines(t *testing.T, texts ...string) {
	t.Helper()
	s := strings.Join(texts, "")
	var want []line
	at := 0
	for _, text := range texts {
		want = append(want, line{at, text})
		at += len(text)
	}
	if got := lines(s); !slices.Equal(got, want) {
		t.Errorf("the model parts %s into %s, not %s", brief(line{0, s}), brief(got...), brief(want...))
	}
	checkLines(t, s, want)
}

// P13.2: the chapter's examples, and its edges.

func TestLinesOfExamples(t *testing.T) {
	bothLines(t, "a\n", "b")
	bothLines(t, "a\n", "")
	bothLines(t, "")
}

func TestEachMustEndsALine(t *testing.T) {
	for _, end := range []string{"\n", "\r\n", "\r", "\v", "\f", "\u0085", "\u2028", "\u2029"} {
		bothLines(t, end, "")
		bothLines(t, end, end, "")
		bothLines(t, "a"+end, "b")
		bothLines(t, "a b"+end, end, " c-d"+end, "")
		bothLines(t, "\u200B"+end, ")"+end, "\u0301")
		bothLines(t, "("+end, "\xFF"+end, "\xFF")
	}
	bothLines(t, "\n", "\r", "\r\n", "\n", "")
	bothLines(t, "\r", "\u0301\n", "")
	bothLines(t, "a\u2028", "\u0301\u2029", "\u200D")
}

func TestWhatEndsNoLine(t *testing.T) {
	for _, s := range []string{" ", "\t", "\u200B", "-", "\u4E16\u4E16", "a b", "\x00", "\x1C", "\x1F", "\x85", "\xE2\x80", "\xFF", "\u00A0", "a-b c"} {
		bothLines(t, s)
	}
}

// as is n bytes of that part, which has as many as divide n.
func as(part string, n int) string { return strings.Repeat(part, n/len(part)) }

func TestLongLinesArePartedAtBorders(t *testing.T) {
	const most = api.MaxLine
	marked := "a" + as("\u0301", 20)
	bothLines(t, as("a", most))
	bothLines(t, as("a", most), "a")
	bothLines(t, as("a", most), as("a", most))
	bothLines(t, as("a", most), as("a", most), "b")
	bothLines(t, as("a ", most), " ")
	bothLines(t, as("\xFF", most), "\xFF\xFF")
	bothLines(t, as("\u4E16", most-1), as("\u4E16", 9))
	bothLines(t, "a"+as("\u4E16", most-1), "\u4E16")
	bothLines(t, as("\U0001F600", most), "a")
	bothLines(t, "abc"+as("\U0001F600", most-4), "\U0001F600b")
	bothLines(t, as("a", most-2), "a\u0301")
	bothLines(t, as("a", most-3)+"a\u0301", "\xFF")
	bothLines(t, as("a", most-2), marked+"b")
	bothLines(t, as("a", most-len(marked))+marked, "b")
	bothLines(t, as("a", most-len(marked)+1), marked)
	bothLines(t, as(marked, most/len(marked)*len(marked)), as(marked, most/len(marked)*len(marked)), marked)
}

func TestLongLinesWithTheirEnds(t *testing.T) {
	const most = api.MaxLine
	bothLines(t, as("a", most-1)+"\n", "")
	bothLines(t, as("a", most-1)+"\n", "b")
	bothLines(t, as("a", most), "\n", "")
	bothLines(t, as("a", most), "\n", "\n", "b")
	bothLines(t, as("a", most), "a\n", "b")
	bothLines(t, as("a", most-2)+"\r\n", "b")
	bothLines(t, as("a", most-1), "\r\n", "b")
	bothLines(t, as("a", most-3)+"\u2028", as("b", most), "b")
	bothLines(t, as("a", most-2), "\u2028", "b")
	bothLines(t, "a\n", as("b", most-1)+"\n", as("c", most-1)+"\n", "")
	bothLines(t, "a\n", as("b", most), "b\n", as("c", most-1)+"\n", "\n", as("d", most))
	bothLines(t, as("a", most), as("b", most-1)+"\n", as("c", most), as("c", most), "\n", "")
}

func TestManyLinesAsTheModel(t *testing.T) {
	for _, s := range []string{as("a\n", 4000), as("\r\n", 4000), as("\n", 4000), as("\r", 300) + "\n", as("a b-\u2028", 4200) + "c"} {
		checkLines(t, s, lines(s))
	}
}

// Lengths around the bound, of parts that it falls into at each place.
func TestEachLengthAroundTheBound(t *testing.T) {
	for _, c := range []string{"\u4E16", "a\u0301", "\r\n", "\U0001F469\u200D\U0001F4BB"} {
		for n := api.MaxLine - 13; n <= api.MaxLine+2; n++ {
			s := "x\n" + as("a", n) + c + c
			checkLines(t, s, lines(s))
		}
	}
}

// R9

func TestIteratorIsLeftAndGoneOverAgain(t *testing.T) {
	for _, s := range []string{"", "a", "\n", "a\nb\r\n\nc\u2028", "\n" + as("a", api.MaxLine) + as("b", api.MaxLine) + "c\nd"} {
		walk := breaks.Lines(s)
		all := toldLines(s)
		for n := range len(all) {
			var got []line
			for at, text := range walk {
				got = append(got, line{at, text})
				if len(got) > n {
					break
				}
			}
			if !slices.Equal(got, all[:n+1]) {
				t.Errorf("%s left after %d: %s", brief(line{0, s}), n, brief(got...))
			}
		}
		n := 0
		for at := range walk {
			for inner := range walk {
				if inner == at {
					n++
				}
			}
		}
		if n != len(all) {
			t.Errorf("within itself %d times the same, not %d", n, len(all))
		}
	}
}
