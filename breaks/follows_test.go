package breaks_test

import (
	"slices"
	"strings"
	"sync"
	"testing"

	"shuttle/api"
	"shuttle/breaks"
	"shuttle/cluster"
)

// drawing is a row of numbers that is the same at each run.
type drawing uint32

func (d *drawing) below(n int) int {
	*d = *d*1664525 + 1013904223
	return int(*d>>16) % n
}

// mixed hands out n texts of up to 90 parts, in which one part often stands many times in a row.
func mixed(n int, f func(s string)) {
	more := append([]string{"\r\n", "\u2028", "a\u0301", " \u0301", "\u2060", "\u2014", "\u00AD", "\u300C", "\u3002", "\t", "\u05D0", "\r"}, parts...)
	d := drawing(1)
	for range n {
		s := ""
		for left := d.below(90); left > 0; {
			part, times := more[d.below(len(more))], 1
			if d.below(6) == 0 {
				times = 1 + d.below(left)
			}
			s += strings.Repeat(part, times)
			left -= times
		}
		f(s)
	}
}

func TestMixedTexts(t *testing.T) {
	mixed(10000, func(s string) {
		if !t.Failed() {
			check(t, s)
		}
	})
}

// P13.3

// longAndMixed hands out mixed texts, and longer ones of them, in which a line now and then is too long.
func longAndMixed(f func(s string)) {
	mixed(1000, f)
	d := drawing(5)
	var b strings.Builder
	mixed(900, func(s string) {
		if d.below(8) > 0 {
			s = strings.Map(withoutMust, s)
		}
		b.WriteString(strings.Repeat(s, 1+d.below(300)))
		if b.Len() > 3*api.MaxLine {
			f(b.String())
			b.Reset()
		}
	})
}

func withoutMust(r rune) rune {
	if r == '\n' || r == '\r' || r == '\u2028' {
		return '-'
	}
	return r
}

func TestLinesAreTheText(t *testing.T) {
	long := 0
	longAndMixed(func(s string) {
		all := toldLines(s)
		end := 0
		for i, l := range all {
			if l.at != end || len(l.text) > api.MaxLine || !cluster.Is(s, l.at) {
				t.Fatalf("%s: %s behind %d", brief(line{0, s}), brief(l), end)
			}
			end += len(l.text)
			if s[l.at:end] != l.text || l.text == "" && i != len(all)-1 {
				t.Fatalf("%s: %s", brief(line{0, s}), brief(l))
			}
			if i < len(all)-1 && !endsWithMust(l.text) {
				long++
			}
		}
		if end != len(s) || len(all) == 0 || endsWithMust(all[len(all)-1].text) {
			t.Errorf("%s is told as %s", brief(line{0, s}), brief(all...))
		}
	})
	if long < 20 {
		t.Errorf("only %d lines were too long", long)
	}
}

func endsWithMust(s string) bool {
	return s != "" && classOf(s[len(s)-cluster.Last(s):]) == api.BreakMust
}

func TestALineAloneIsThatLine(t *testing.T) {
	longAndMixed(func(s string) {
		for _, l := range toldLines(s) {
			want := []line{{0, l.text}}
			if endsWithMust(l.text) {
				want = append(want, line{len(l.text), ""})
			}
			if got := toldLines(l.text); !slices.Equal(got, want) {
				t.Fatalf("%s by itself is %s", brief(l), brief(got...))
			}
		}
	})
}

// P13.4

func TestOneAnswerForEachCluster(t *testing.T) {
	mixed(5000, func(s string) {
		where := breaks.Where(s)
		l := laid(s)
		if len(where) != len(l) || len(l) != cluster.Count(s) {
			t.Fatalf("Where(%+q): %d of %d", s, len(where), len(l))
		}
		for i, of := range classes(l) {
			if must := of == api.BreakMust; must != (where[i] == api.Must) {
				t.Errorf("Where(%+q): %d behind the cluster %d", s, where[i], i)
			}
		}
	})
}

func TestWhatStandsFarAwayTellsNothing(t *testing.T) {
	mixed(1000, func(s string) {
		l := laid(s)
		of, where := classes(l), breaks.Where(s)
		solid := 0
		for i := range l {
			if of[i] != api.BreakSpace {
				solid = i
			}
			// From the solid one to the next one; without one, all from the beginning on.
			near := strings.Join(l[solid:min(i+2, len(l))], "")
			if got := breaks.Where(near); got[i-solid] != where[i] {
				t.Fatalf("%+q by itself: %s, in %+q: %s", near, written(got), s, written(where))
			}
			if got := breaks.Where("(\u4E16\u200B\xFF" + near + "\xFF\n)\u200B"); i+1 < len(l) && of[solid] != api.BreakSpace && got[4+i-solid] != where[i] {
				t.Fatalf("%+q among others: %s, in %+q: %s", near, written(got), s, written(where))
			}
		}
	})
}

// R1: a long text is gone through in steps as many as it has bytes.
func TestLongTexts(t *testing.T) {
	long := append([]string{"( ", " -", "\u200B ", "\U0001F469\u200D", "\r\n", "\u1100", "\U0001F1E6", "a b-1,2 "}, parts...)
	for _, part := range long {
		s := strings.Repeat(part, 1<<19/len(part))
		if got := len(breaks.Where(s)); got != cluster.Count(s) {
			t.Errorf("%+q: %d", part, got)
		}
		end := 0
		for at, text := range breaks.Lines(s) {
			if at != end || len(text) > api.MaxLine {
				t.Fatalf("%+q: %d behind %d", part, at, end)
			}
			end += len(text)
		}
		if end != len(s) {
			t.Errorf("%+q: the last line ends at %d", part, end)
		}
	}
}

// R2, R3

func TestManyAskAtOneTime(t *testing.T) {
	s := strings.Repeat("(a) b-1,2\u4E16\u200B\xFF\t\nc\u0301 -\r\n", 500)
	want, wantLines := where(s), lines(s)
	var wait sync.WaitGroup
	for range 4 {
		wait.Go(func() {
			for range 4 {
				got := breaks.Where(s)
				if !slices.Equal(got, want) || !slices.Equal(toldLines(s), wantLines) {
					t.Error("another answer")
				}
				clear(got[:cap(got)])
			}
		})
	}
	wait.Wait()
}
