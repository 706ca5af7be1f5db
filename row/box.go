package row

import (
	"strings"

	"shuttle/api"
)

// edges are the left and the right one of what is seen in a row.
type edges [2]int

// first is the edge at which that begins which runs as this level does.
func (e edges) first(level uint8) int {
	return e[level%2]
}

// last is the edge at which it ends.
func (e edges) last(level uint8) int {
	return e[1-level%2]
}

// box is a cluster of a row: its place in the line and its text there, what it became, what is shown of that, in how many columns, its level, and its edges.
type box struct {
	at     int
	text   string
	became string
	shown  string
	wide   int
	level  uint8
	edges  edges
}

// addCells adds the cells of the cluster, from left to right.
func (b box) addCells(cells []api.Cell) []api.Cell {
	cell := api.Cell{At: b.at, Len: len(b.text), Right: b.level%2 == 1}
	if !b.isWhole() {
		for _, r := range b.shown {
			cell.Text = string(r)
			cells = append(cells, cell)
		}
		return cells
	}
	cell.Text = b.shown
	for part := range b.wide {
		cell.Part = int8(part)
		cells = append(cells, cell)
		cell.Text = ""
	}
	return cells
}

// dotted is the circle on which marks are shown that have no letter.
const dotted = "\u25CC"

// isWhole tells whether the cluster is shown as it is (or on a circle, less its last character, if it has too many), and not by signs that tell of it, each of which has a cell.
func (b box) isWhole() bool {
	return b.shown == b.became || strings.HasPrefix(b.shown, dotted)
}
