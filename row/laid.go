package row

import (
	"shuttle/api"
	"shuttle/class"
	"shuttle/cluster"
	"shuttle/join"
	"shuttle/scan"
	"shuttle/show"
	"shuttle/visual"
)

// laid is a row that is laid out: its clusters as they stand in the line, the order in which they are seen, its base, and its left and right edge.
type laid struct {
	from  int
	boxes []box
	order []int
	base  uint8
	edges edges
}

// lay lays the row r of the line out.
func lay(line string, r api.Row, l api.Look) laid {
	from, to := stretch(line, r)
	runes, levels, base := characters(line, from, to, l)
	row := laid{from: from, base: base}
	for at, c := range cluster.All(line[from:to]) {
		n := scan.Count(c)
		row.boxes = append(row.boxes, box{at: from + at, text: c, became: became(c, runes[:n], levels[0]), level: levels[0]})
		runes, levels = runes[n:], levels[n:]
	}
	row.measure(r.Wide, l)
	row.order = visual.Order(row.levels())
	row.setEdges()
	return row
}

// stretch tells the borders of the line between which the row has its clusters.
func stretch(line string, r api.Row) (from, to int) {
	a := min(max(r.At, 0), len(line))
	b := a + min(max(r.Len, 0), len(line)-a)
	return borderFrom(line, a), borderFrom(line, b)
}

// borderFrom is the least border of the line that is at least at.
func borderFrom(line string, at int) int {
	from, to := cluster.At(line, at)
	if from < at {
		return to
	}
	return at
}

// characters are those between two borders of the line, as they are shaped, their levels, and the base. Levels hang on the whole line, shapes on the row alone.
func characters(line string, from, to int, l api.Look) (runes []rune, levels []uint8, base uint8) {
	all := scan.Runes(line)
	first := scan.Count(line[:from])
	end := first + scan.Count(line[from:to])
	runes, levels = all[first:end:end], make([]uint8, end-first)
	if !l.Raw {
		levels, base = visual.Levels(all, l.Want)
		levels = visual.Row(all, levels, base, first, end)
	}
	if l.Join {
		runes = join.Shaped(runes)
	}
	return runes, levels, base
}

// became is what the cluster c becomes at that level, if its characters are shaped as these runes.
func became(c string, runes []rune, level uint8) string {
	// A bad byte is no character: its rune is but what it stands for.
	if !scan.Valid(c) {
		return c
	}
	return string(visual.Mirrored(runes[0], level)) + string(runes[1:])
}

// measure tells of all clusters what is shown of them, and in how many columns, if there are so many for the blanks at the row's end.
func (row *laid) measure(most int, l api.Look) {
	solid := row.solid()
	col := 0
	for n := range row.boxes {
		b := &row.boxes[n]
		shown, wide := show.Text(b.became, col, l)
		if n >= solid && col+wide > most {
			// It hangs, and so does all behind it: nothing is shown of them.
			return
		}
		b.shown, b.wide = shown, wide
		col += wide
	}
}

// solid tells how many clusters there are without the blanks at the row's end.
func (row *laid) solid() int {
	n := len(row.boxes)
	for n > 0 && row.boxes[n-1].isBlank() {
		n--
	}
	return n
}

// levels are those of the clusters.
func (row *laid) levels() []uint8 {
	levels := make([]uint8, len(row.boxes))
	for n, b := range row.boxes {
		levels[n] = b.level
	}
	return levels
}

// setEdges gives each cluster its edges, and the row its own.
func (row *laid) setEdges() {
	col := 0
	for _, n := range row.order {
		b := &row.boxes[n]
		b.edges = edges{col, col + b.wide}
		col += b.wide
	}
	row.edges = edges{0, col}
}

// isBlank tells whether the cluster may hang over a row's end.
func (b box) isBlank() bool {
	x, _ := scan.Next(b.text)
	return class.Break(x) == api.BreakSpace
}
