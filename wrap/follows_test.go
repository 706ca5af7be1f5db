package wrap_test

import (
	"slices"
	"strings"
	"sync"
	"testing"

	"shuttle/api"
	"shuttle/breaks"
	"shuttle/cluster"
	"shuttle/show"
	"shuttle/wrap"
)

// drawing is a row of numbers that is the same at each run.
type drawing uint32

func (d *drawing) below(n int) int {
	*d = *d*1664525 + 1013904223
	return int(*d>>16) % n
}

// look is one of many.
func (d *drawing) look() api.Look {
	return api.Look{Tab: d.below(19) - 1, Wide: d.below(3) == 0, Want: int8(d.below(4)), Join: d.below(3) == 0, Raw: d.below(3) == 0}
}

// mixed hands out n texts of up to 90 parts, in which one part often stands many times in a row.
func mixed(n int, f func(s string)) {
	more := append([]string{"b", "cd", "e\u0301", " \u0301", "1", ",", "\u3002", "\u2060", "\u05D1", "\u0628", "\U0001F469\u200D\U0001F4BB", "\u2028", "\r\n", "\x01", "\u03B1", "a", "f", " "}, parts...)
	d := drawing(1)
	for range n {
		s := ""
		for left := d.below(90); left > 0; {
			part, times := more[d.below(len(more))], 1
			if d.below(8) == 0 {
				times = 1 + d.below(left)
			}
			s += strings.Repeat(part, times)
			left -= times
		}
		if d.below(4) > 0 {
			s = strings.NewReplacer("\n", "g", "\r", "h", "\u2028", "ij").Replace(s)
		}
		f(s)
	}
}

func TestMixedLines(t *testing.T) {
	d := drawing(7)
	mixed(8000, func(s string) {
		if !t.Failed() {
			check(t, s, 1+d.below(20), d.look())
			check(t, s, d.below(120), d.look())
		}
	})
}

// P14.4

func TestTiles(t *testing.T) {
	d := drawing(11)
	mixed(5000, func(s string) {
		w, look := 1+d.below(30), d.look()
		all := wrap.Rows(s, w, look)
		l := listed(s)
		end := 0
		for k, row := range all {
			if row.At != end || !cluster.Is(s, row.At) || !cluster.Is(s, row.At+row.Len) {
				t.Fatalf("Rows(%+q, %d, %v): the row %d begins at %d", s, w, look, k, row.At)
			}
			end += row.Len
			last := k == len(all)-1
			switch row.End {
			case api.EndText:
				if !last || l.ended {
					t.Errorf("Rows(%+q, %d, %v): EndText of the row %d", s, w, look, k)
				}
			case api.EndLine:
				if !last || !l.ended {
					t.Errorf("Rows(%+q, %d, %v): EndLine of the row %d", s, w, look, k)
				}
			default:
				if last || row.Len == 0 || row.End != api.EndWord && row.End != api.EndCut {
					t.Errorf("Rows(%+q, %d, %v): the row %d ends %d", s, w, look, k, row.End)
				}
			}
		}
		if counts := strings.Join(l.clusters, ""); len(all) == 0 || end != len(counts) {
			t.Errorf("Rows(%+q, %d, %v) end at %d", s, w, look, end)
		}
	})
}

// P14.5, P5

func TestNoRowIsTooWide(t *testing.T) {
	d := drawing(13)
	alone := 0
	mixed(5000, func(s string) {
		w, look := 1+d.below(12), d.look()
		for _, row := range wrap.Rows(s, w, look) {
			text := s[row.At : row.At+row.Len]
			if row.Wide > w {
				alone++
				if cluster.Count(text) != 1 || blank(text) {
					t.Errorf("Rows(%+q, %d, %v): %+q has %d columns", s, w, look, text, row.Wide)
				}
			}
			// What hangs stands at the row's end, and is blanks alone.
			shown := 0
			for at, c := range cluster.All(text) {
				if shown = show.Wide(text[:at+len(c)], 0, look); shown > row.Wide && !blank(c) {
					t.Errorf("Rows(%+q, %d, %v): of %+q the columns are %d", s, w, look, text, row.Wide)
				}
			}
			if shown < row.Wide {
				t.Errorf("Rows(%+q, %d, %v): of %+q the columns are %d", s, w, look, text, row.Wide)
			}
		}
	})
	if alone < 100 {
		t.Errorf("only %d clusters were too wide", alone)
	}
}

func TestOneRowForAWholeLine(t *testing.T) {
	d := drawing(17)
	mixed(3000, func(s string) {
		look := d.look()
		text := strings.Join(listed(s).clusters, "")
		wide := show.Wide(text, 0, look)
		for _, w := range []int{wide, wide + 1, api.MaxSide} {
			if w < 1 || w < wide || w > api.MaxSide {
				continue
			}
			if all := wrap.Rows(s, w, look); len(all) != 1 || all[0].Len != len(text) || all[0].Wide != wide {
				t.Errorf("Rows(%+q, %d, %v) = %s", s, w, look, told(s, all))
			}
		}
	})
}

// mays are the places of s behind which it may be broken.
func mays(s string) (places []int) {
	where := breaks.Where(s)
	n := 0
	for at, c := range cluster.All(s) {
		if where[n] == api.May {
			places = append(places, at+len(c))
		}
		n++
	}
	return places
}

func TestRowsEndWhereTheyMay(t *testing.T) {
	d := drawing(19)
	mixed(4000, func(s string) {
		w, look := 1+d.below(20), d.look()
		l := listed(s)
		may := mays(s)
		for _, row := range wrap.Rows(s, w, look) {
			end := row.At + row.Len
			// The next place where the line may be broken, or where what counts is through.
			next := len(strings.Join(l.clusters, ""))
			if k, _ := slices.BinarySearch(may, end+1); k < len(may) {
				next = min(next, may[k])
			}
			within, _ := slices.BinarySearch(may, row.At+1)
			ends, ok := slices.BinarySearch(may, end)
			switch {
			case row.End == api.EndWord && !ok:
				t.Errorf("Rows(%+q, %d, %v): no word ends at %d", s, w, look, end)
			case row.End == api.EndWord && fits(s[row.At:next], w, look):
				t.Errorf("Rows(%+q, %d, %v): the row at %d has room up to %d", s, w, look, row.At, next)
			case row.End == api.EndCut && within != ends:
				t.Errorf("Rows(%+q, %d, %v): the row at %d is cut, though it may be broken", s, w, look, row.At)
			case row.End == api.EndCut && fits(s[row.At:end+cluster.Next(s[end:])], w, look):
				t.Errorf("Rows(%+q, %d, %v): the row at %d has room behind %d", s, w, look, row.At, end)
			}
		}
	})
}

// fits tells whether a row of w columns may have this text.
func fits(text string, w int, look api.Look) bool {
	var clusters []string
	for _, c := range cluster.All(text) {
		clusters = append(clusters, c)
	}
	ok, _ := has(clusters, w, look)
	return ok
}

// P14.3: a caret stands in the row whose bytes it is at.

func TestAtOfRowsOfALine(t *testing.T) {
	d := drawing(23)
	mixed(500, func(s string) {
		all := wrap.Rows(s, 1+d.below(20), d.look())
		for k, row := range all {
			for at := row.At; at < row.At+row.Len; at++ {
				want := k
				if at == row.At {
					want = max(k-1, 0)
				}
				if got := wrap.At(all, api.Caret{At: at}); got != k {
					t.Errorf("%s: at %d stands the row %d", told(s, all), at, got)
				}
				if got := wrap.At(all, api.Caret{At: at, Back: true}); got != want {
					t.Errorf("%s: ahead of %d stands the row %d", told(s, all), at, got)
				}
			}
		}
		if got := wrap.At(all, api.Caret{At: len(s)}); got != len(all)-1 {
			t.Errorf("%s: at the end stands the row %d", told(s, all), got)
		}
	})
}

// R1: a long line is gone through in steps as many as it has bytes, however many of its rows go back to the end of a word.
func TestLongLines(t *testing.T) {
	long := append([]string{"a b", "a )", "( ", "a\u202E", "\u200B\u202E", " \u202E", "-\u202E\u2060", "\u4E00\u3002", "e\u0301\u0301", "ab cd-ef ", "\u05D0 a "}, parts...)
	for _, part := range long {
		for _, ahead := range []string{"", "a b  "} {
			for _, w := range []int{1, 80, 1024} {
				s := ahead + strings.Repeat(part, (api.MaxLine-len(ahead)-1)/len(part)) + ")"
				all := wrap.Rows(s, w, zero)
				end := 0
				for _, row := range all {
					if row.At != end {
						t.Fatalf("many times %+q in %d: %d behind %d", part, w, row.At, end)
					}
					end += row.Len
				}
				if want := len(s); part != "\n" && end != want {
					t.Errorf("many times %+q in %d: the last row ends at %d", part, w, end)
				}
				if n := wrap.Count(s, w, zero); n != len(all) {
					t.Errorf("many times %+q in %d: %d rows, but Count tells %d", part, w, len(all), n)
				}
			}
		}
	}
}

// R2, R3

func TestManyAskAtOneTime(t *testing.T) {
	s := strings.Repeat("(a) b-1,2\u4E00\u200B\xFF\tc\u0301 \u05D0 ", 200)
	want := rows(s, 9, zero)
	shared := slices.Clone(want)
	var wait sync.WaitGroup
	for range 4 {
		wait.Go(func() {
			for range 4 {
				got := wrap.Rows(s, 9, zero)
				if !slices.Equal(got, want) || wrap.Count(s, 9, zero) != len(want) || wrap.At(shared, api.Caret{At: 90, Back: true}) < 0 {
					t.Error("another answer")
				}
				clear(got[:cap(got)])
			}
		})
	}
	wait.Wait()
	if !slices.Equal(shared, want) {
		t.Error("the rows were changed")
	}
}
