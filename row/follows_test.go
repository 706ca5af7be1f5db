package row_test

import (
	"slices"
	"strings"
	"sync"
	"testing"

	"shuttle/api"
	"shuttle/cluster"
	"shuttle/row"
	"shuttle/scan"
	"shuttle/show"
	"shuttle/visual"
	"shuttle/wrap"
)

// drawing is a row of numbers that is the same at each run.
type drawing uint32

func (d *drawing) below(n int) int {
	*d = *d*1664525 + 1013904223
	return int(*d>>16) % n
}

// look is one of many.
func (d *drawing) look() api.Look {
	return api.Look{Tab: d.below(19) - 1, Wide: d.below(3) == 0, Want: int8(d.below(4)), Join: d.below(2) == 0, Raw: d.below(6) == 0}
}

// row is one of a line of n bytes, or near it.
func (d *drawing) row(n int) api.Row {
	r := api.Row{Level: uint8(d.below(4)), End: int8(d.below(6) - 1), Wide: d.below(n+3) - 1}
	if d.below(2) == 0 {
		r.Len = n
	} else {
		r.At, r.Len = d.below(n+5)-2, d.below(n+5)-2
	}
	return r
}

// mixed hands out n lines of up to so many parts, in which one part often stands many times in a row.
func mixed(n, most int, f func(s string)) {
	more := append([]string{"b", "cd", "e\u0301", "\u0644\u0627", "2,3", ")", "[\u0301", "\u3000", "\u200B", "\u05D1", "\u0628\u064B", "\U0001F469\u200D\U0001F4BB", "\u2028", "\r\n", "\x01", "\u03B1", "\u2067", "\u2069", "\u202C", "\u202B", "\u0660", "\u200D", ".", "-", "\u3008", "\uFFFD", "\xE4\xB8"}, parts...)
	d := drawing(1)
	for range n {
		s := ""
		for left := d.below(most); left > 0; {
			part, times := more[d.below(len(more))], 1
			if d.below(8) == 0 {
				times = 1 + d.below(left)
			}
			s += strings.Repeat(part, times)
			left -= times
		}
		f(s)
	}
}

func TestMixedLines(t *testing.T) {
	d := drawing(7)
	mixed(1500, 20, func(s string) {
		if !t.Failed() {
			check(t, s, d.row(len(s)), d.look())
		}
	})
	mixed(1500, 60, func(s string) {
		if !t.Failed() {
			checkCells(t, s, d.row(len(s)), d.look())
		}
	})
}

// P15.5, P6

func TestCellsOfEachClusterStandSideBySide(t *testing.T) {
	d := drawing(11)
	mixed(3000, 50, func(s string) {
		r, look := d.row(len(s)), d.look()
		cells := row.Cells(s, r, look)
		if n := row.Place(s, r, look, edgeOf(s, r, look)); n != len(cells) {
			t.Errorf("Cells(%+q, %v, %v) are %d, not %d", s, r, look, len(cells), n)
		}
		seen := map[int]bool{}
		for len(cells) > 0 {
			first := cells[0]
			n := slices.IndexFunc(cells, func(c api.Cell) bool { return c.At != first.At })
			if n < 0 {
				n = len(cells)
			}
			if seen[first.At] {
				t.Fatalf("Cells(%+q, %v, %v): those at %d are parted", s, r, look, first.At)
			}
			seen[first.At] = true
			checkCluster(t, s, look, cells[:n])
			cells = cells[n:]
		}
	})
}

// edgeOf is a caret that stands at the row's right edge.
func edgeOf(s string, r api.Row, look api.Look) api.Caret {
	base := uint8(0)
	if !look.Raw {
		_, base = visual.Levels(scan.Runes(s), look.Want)
	}
	if base%2 == 1 {
		return api.Caret{At: -1, Back: true}
	}
	return api.Caret{At: len(s)}
}

// checkCluster asks of all cells of one cluster whether they show it.
func checkCluster(t *testing.T, s string, look api.Look, cells []api.Cell) {
	t.Helper()
	from, to := cluster.At(s, cells[0].At)
	c, text := s[from:to], ""
	for n, cell := range cells {
		if cell.At != from || cell.Len != to-from || cell.Right != cells[0].Right || cell.Style != 0 {
			t.Errorf("%+q has the cells %s", c, told(cells))
		}
		second := n == 1 && len(cells) == 2 && cell.Text == ""
		if want := int8(n); second && cell.Part != want || !second && (cell.Part != 0 || cell.Text == "") {
			t.Errorf("%+q has the cells %s", c, told(cells))
		}
		text += cell.Text
	}
	// What is shown is what show tells, but for a mirror, a shape, and how far it is to the next tab stop.
	shown, wide := show.Text(c, 0, look)
	if c == "\t" {
		shown, wide = strings.Repeat(" ", len(cells)), len(cells)
	}
	if wide != len(cells) || scan.Count(text) != scan.Count(shown) || !look.Join && !cells[0].Right && text != shown {
		t.Errorf("%+q is shown as %+q in %d cells, not as %+q in %d", c, text, len(cells), shown, wide)
	}
}

// P15.6

func TestStopsRise(t *testing.T) {
	d := drawing(13)
	mixed(900, 18, func(s string) {
		r, look := d.row(len(s)), d.look()
		columns := len(row.Cells(s, r, look))
		stops := row.Stops(s, r, look)
		var places []int
		for _, c := range stops {
			place := row.Place(s, r, look, c)
			places = append(places, place)
			if place < 0 || place > columns {
				t.Errorf("Place(%+q, %v, %v, %v) = %d of %d", s, r, look, c, place, columns)
			}
			if again := row.Place(s, r, look, row.Hit(s, r, look, place)); again != place {
				t.Errorf("Hit(%+q, %v, %v, %d) stands at %d", s, r, look, place, again)
			}
		}
		if len(stops) == 0 || !slices.IsSorted(places) {
			t.Errorf("Stops(%+q, %v, %v) = %s stand at %v", s, r, look, carets(stops), places)
		}
		for x := range columns + 1 {
			hit := row.Hit(s, r, look, x)
			if !slices.Contains(stops, hit) {
				t.Errorf("Hit(%+q, %v, %v, %d) = %v is no stop", s, r, look, x, hit)
			}
			for _, place := range places {
				if apart(place, x) < apart(row.Place(s, r, look, hit), x) {
					t.Errorf("Hit(%+q, %v, %v, %d) = %v, but one stands at %d", s, r, look, x, hit, place)
				}
			}
		}
	})
}

func apart(a, b int) int { return max(a-b, b-a) }

// P15.7, P4

func TestEvenLevelsStandAsInTheLine(t *testing.T) {
	d := drawing(17)
	even := 0
	mixed(4000, 16, func(s string) {
		r, look := d.row(len(s)), d.look()
		m := modelOf(s, r, look)
		if m.base%2 == 1 || slices.ContainsFunc(m.pieces, func(p piece) bool { return p.level%2 == 1 }) {
			return
		}
		even++
		at := -1
		for _, c := range row.Cells(s, r, look) {
			if c.At < at || c.Right {
				t.Errorf("Cells(%+q, %v, %v): %d stands behind %d", s, r, look, c.At, at)
			}
			at = c.At
		}
		place := 0
		for at := range len(s) + 1 {
			now := row.Place(s, r, look, api.Caret{At: at})
			if now < place {
				t.Errorf("Place(%+q, %v, %v) falls at %d", s, r, look, at)
			}
			place = now
		}
	})
	if even < 500 {
		t.Errorf("only %d rows had even levels", even)
	}
}

func TestOrderIsThatOfTheClusters(t *testing.T) {
	d := drawing(19)
	mixed(2000, 40, func(s string) {
		r, look := d.row(len(s)), d.look()
		m := modelOf(s, r, look)
		var want []int
		for _, n := range m.order {
			for range m.pieces[n].wide {
				want = append(want, m.pieces[n].at)
			}
		}
		var got []int
		for _, c := range row.Cells(s, r, look) {
			got = append(got, c.At)
		}
		if !slices.Equal(got, want) {
			t.Errorf("Cells(%+q, %v, %v) stand for %v, not %v", s, r, look, got, want)
		}
	})
}

// P15.8

func TestRowsOfWrapHaveTheirColumns(t *testing.T) {
	d := drawing(23)
	rows, hanging := 0, 0
	mixed(2000, 60, func(s string) {
		look := d.look()
		for _, r := range wrap.Rows(s, 1+d.below(20), look) {
			cells := row.Cells(s, r, look)
			if len(cells) != r.Wide {
				t.Errorf("Cells(%+q, %v, %v) are %d", s, r, look, len(cells))
			}
			rows++
			if show.Wide(s[r.At:r.At+r.Len], 0, look) > r.Wide {
				hanging++
			}
		}
	})
	if rows < 2000 || hanging < 200 {
		t.Errorf("only %d rows, and %d with blanks that hang", rows, hanging)
	}
}

// R1: a long line is laid out in steps as many as it has bytes.
func TestLongLines(t *testing.T) {
	for _, part := range append([]string{"a b", "\u05D0a", "a)\u05D0(", "\u202Ea\u202C", "\u0628\u064B", "(", "\u2067\u05D0"}, parts...) {
		s := strings.Repeat(part, api.MaxLine/4/len(part))
		r, look := whole(s, len(s)/2), api.Look{Join: true}
		cells, stops := row.Cells(s, r, look), row.Stops(s, r, look)
		if len(stops) < 2 {
			t.Errorf("many times %+q: %d stops", part, len(stops))
		}
		for _, c := range []api.Caret{{At: len(s) / 2}, {At: len(s)}, {At: len(s), Back: true}} {
			if n := row.Place(s, r, look, c); n < 0 || n > len(cells) {
				t.Errorf("many times %+q: Place = %d", part, n)
			}
		}
		for _, x := range []int{0, len(cells) / 2, len(cells)} {
			if c := row.Hit(s, r, look, x); !slices.Contains(stops, c) {
				t.Errorf("many times %+q: Hit = %v", part, c)
			}
		}
	}
}

// R2, R3: what is handed out is not shared.
func TestManyAskAtOneTime(t *testing.T) {
	s := strings.Repeat("(a) \u05D0\u05D1 1,2\u4E00\xFF\tc\u0301\u0628\u0628 ", 20)
	r, look := api.Row{At: 3, Len: len(s) - 5, Wide: 300, End: api.EndCut}, api.Look{Join: true}
	cells, stops := row.Cells(s, r, look), row.Stops(s, r, look)
	sameCells, sameStops := slices.Clone(cells), slices.Clone(stops)
	clear(cells[:cap(cells)])
	clear(stops[:cap(stops)])
	var wait sync.WaitGroup
	for range 4 {
		wait.Go(func() {
			for range 10 {
				cells, stops := row.Cells(s, r, look), row.Stops(s, r, look)
				if !slices.Equal(cells, sameCells) || !slices.Equal(stops, sameStops) {
					t.Error("another answer")
				}
				clear(cells)
				clear(stops)
				hit := row.Hit(s, r, look, 30)
				if row.Place(s, r, look, hit) != 30 {
					t.Errorf("Hit(.., 30) = %v", hit)
				}
			}
		})
	}
	wait.Wait()
}
