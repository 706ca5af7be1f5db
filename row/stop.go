package row

import (
	"cmp"
	"slices"

	"shuttle/api"
)

// stop is a caret of a row, and the edge at which it stands.
type stop struct {
	caret api.Caret
	place int
}

// apart tells how far the stop is from the edge x.
func (s stop) apart(x int) int {
	return max(s.place-x, x-s.place)
}

// border tells how many of the row's clusters stand ahead of the place at, all of each: a place in the midst of a cluster counts as ahead of it.
func (row *laid) border(at int) int {
	n := 0
	for n < len(row.boxes) && row.boxes[n].at+len(row.boxes[n].text) <= at {
		n++
	}
	return n
}

// place tells the edge of a caret ahead of which n clusters stand.
func (row *laid) place(n int, back bool) int {
	switch {
	case back && n > 0:
		b := row.boxes[n-1]
		return b.edges.last(b.level)
	case back:
		return row.edges.first(row.base)
	case n < len(row.boxes):
		b := row.boxes[n]
		return b.edges.first(b.level)
	}
	return row.edges.last(row.base)
}

// stops are those of the row, if it ends so, from left to right.
func (row *laid) stops(end int8) []stop {
	// What stands behind such an end is of the next row: so is a caret there, but one that belongs to what stands ahead of it.
	goesOn := end == api.EndWord || end == api.EndCut
	last := len(row.boxes)
	var stops []stop
	for n := range last + 1 {
		ahead, behind := row.stop(n, false), row.stop(n, true)
		if n < last || !goesOn || last == 0 {
			stops = append(stops, ahead)
		}
		if n > 0 && (n == last && goesOn || behind.place != ahead.place) {
			stops = append(stops, behind)
		}
	}
	// They came by their places in the line, so those at one edge stay in that order.
	slices.SortStableFunc(stops, func(a, b stop) int { return cmp.Compare(a.place, b.place) })
	return stops
}

// stop is the one ahead of which n clusters stand.
func (row *laid) stop(n int, back bool) stop {
	at := row.from
	if n > 0 {
		b := row.boxes[n-1]
		at = b.at + len(b.text)
	}
	return stop{api.Caret{At: at, Back: back, Want: -1}, row.place(n, back)}
}
