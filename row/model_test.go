package row_test

import (
	"slices"
	"strconv"
	"strings"
	"unicode/utf8"

	"shuttle/api"
	"shuttle/class"
	"shuttle/cluster"
	"shuttle/join"
	"shuttle/show"
	"shuttle/visual"
)

// The model is the chapter's sentences one by one: each is asked anew of the whole line, whatever that costs.

// piece is a cluster of a row.
type piece struct {
	at     int
	text   string
	level  uint8
	became string
	shown  string
	wide   int
	left   int
	right  int
}

// model is a row by the chapter's words.
type model struct {
	from, to int
	pieces   []piece
	order    []int
	base     uint8
	columns  int
	end      int8
}

// borders are all those of the line.
func borders(line string) []int {
	list := []int{0}
	for at, c := range cluster.All(line) {
		list = append(list, at+len(c))
	}
	return list
}

func least(list []int, at int) int {
	for _, p := range list {
		if p >= at {
			return p
		}
	}
	panic("no border")
}

func greatest(list []int, at int) int {
	for _, p := range slices.Backward(list) {
		if p <= at {
			return p
		}
	}
	panic("no border")
}

func brought(n, least, most int) int {
	switch {
	case n < least:
		return least
	case n > most:
		return most
	}
	return n
}

// after is a and n together, brought into 0 to most; n may be any number.
func after(a, n, most int) int {
	switch {
	case n < 0:
		return a
	case n > most:
		return most
	}
	return brought(a+n, 0, most)
}

// levelsOf tells the level of the character at each place of the line at which one begins, in a row between two of them, and the base.
func levelsOf(line string, from, to int, look api.Look) (map[int]uint8, uint8) {
	var runes []rune
	var places []int
	for at := 0; at < len(line); {
		r, n := utf8.DecodeRuneInString(line[at:])
		runes, places = append(runes, r), append(places, at)
		at += n
	}
	levels := map[int]uint8{}
	if look.Raw {
		return levels, 0
	}
	all, base := visual.Levels(runes, look.Want)
	a, _ := slices.BinarySearch(places, from)
	b, _ := slices.BinarySearch(places, to)
	for n, x := range visual.Row(runes, all, base, a, b) {
		levels[places[a+n]] = x
	}
	return levels, base
}

func isBad(c string) bool { return !utf8.ValidString(c) }

// become tells the pieces what they become.
func become(pieces []piece, look api.Look) {
	var runes []rune
	for _, p := range pieces {
		runes = append(runes, []rune(p.text)...)
	}
	if look.Join {
		runes = join.Shaped(runes)
	}
	for k := range pieces {
		p := &pieces[k]
		n := utf8.RuneCountInString(p.text)
		own := slices.Clone(runes[:n])
		runes = runes[n:]
		if p.level%2 == 1 {
			own[0] = class.Mirror(own[0])
		}
		if p.became = string(own); isBad(p.text) {
			p.became = p.text
		}
	}
}

func isSpace(c string) bool {
	x, _ := utf8.DecodeRuneInString(c)
	return class.Break(x) == api.BreakSpace
}

// hangs tells whether of the pieces, of which all ahead of the number n have their columns, this one hangs.
func hangs(pieces []piece, n, most int, look api.Look) bool {
	for _, p := range pieces[n:] {
		if !isSpace(p.text) {
			return false
		}
	}
	_, wide := show.Text(pieces[n].became, columnsAhead(pieces, n), look)
	return columnsAhead(pieces, n)+wide > most
}

func columnsAhead(pieces []piece, n int) int {
	sum := 0
	for _, p := range pieces[:n] {
		sum += p.wide
	}
	return sum
}

// modelOf is the row r of the line.
func modelOf(line string, r api.Row, look api.Look) model {
	a := brought(r.At, 0, len(line))
	b := after(a, r.Len, len(line))
	all := borders(line)
	m := model{from: least(all, a), to: least(all, b), end: r.End}
	levels, base := levelsOf(line, m.from, m.to, look)
	m.base = base
	for at, c := range cluster.All(line) {
		if at >= m.from && at < m.to {
			m.pieces = append(m.pieces, piece{at: at, text: c, level: levels[at]})
		}
	}
	become(m.pieces, look)
	for n := range m.pieces {
		if hangs(m.pieces, n, r.Wide, look) {
			break
		}
		p := &m.pieces[n]
		p.shown, p.wide = show.Text(p.became, columnsAhead(m.pieces, n), look)
	}
	m.setEdges()
	return m
}

func (m *model) setEdges() {
	var list []uint8
	for _, p := range m.pieces {
		list = append(list, p.level)
	}
	m.order = visual.Order(list)
	for k, n := range m.order {
		left := 0
		for _, other := range m.order[:k] {
			left += m.pieces[other].wide
		}
		m.pieces[n].left, m.pieces[n].right = left, left+m.pieces[n].wide
	}
	m.columns = columnsAhead(m.pieces, len(m.pieces))
}

// cells: P15.1.
func (m model) cells() []api.Cell {
	var cells []api.Cell
	for _, n := range m.order {
		p := m.pieces[n]
		if p.wide == 0 {
			continue
		}
		cell := api.Cell{At: p.at, Len: len(p.text), Right: p.level%2 == 1}
		runes := []rune(p.became)
		first := "\u25CC" + string(runes[:min(len(runes), 31)])
		if p.shown == p.became || p.shown == first || p.shown == "\u25CC"+p.became {
			cell.Text = p.shown
			cells = append(cells, cell)
			if p.wide == 2 {
				cell.Text, cell.Part = "", 1
				cells = append(cells, cell)
			}
			continue
		}
		for _, x := range p.shown {
			cell.Text = string(x)
			cells = append(cells, cell)
		}
	}
	return cells
}

// begins and ends: the edges of a piece.
func (p piece) begins() int {
	if p.level%2 == 0 {
		return p.left
	}
	return p.right
}

func (p piece) ends() int {
	if p.level%2 == 0 {
		return p.right
	}
	return p.left
}

// place: P15.2.
func (m model) place(line string, c api.Caret) int {
	at := greatest(borders(line), brought(c.At, m.from, m.to))
	first, last := 0, m.columns
	if m.base%2 == 1 {
		first, last = last, first
	}
	for _, p := range m.pieces {
		if !c.Back && p.at == at {
			return p.begins()
		}
		if c.Back && p.at+len(p.text) == at {
			return p.ends()
		}
	}
	if c.Back {
		return first
	}
	return last
}

// stops: P15.3.
func (m model) stops(line string) []api.Caret {
	var list []api.Caret
	goes := m.end == api.EndWord || m.end == api.EndCut
	for _, at := range borders(line) {
		if at < m.from || at > m.to {
			continue
		}
		ahead, behind := api.Caret{At: at, Want: -1}, api.Caret{At: at, Back: true, Want: -1}
		if at < m.to || at == m.to && !goes || m.from == m.to {
			list = append(list, ahead)
		}
		if at > m.from && (at == m.to && goes || m.place(line, behind) != m.place(line, ahead)) {
			list = append(list, behind)
		}
	}
	slices.SortFunc(list, func(a, b api.Caret) int {
		if d := m.place(line, a) - m.place(line, b); d != 0 {
			return d
		}
		if a.At != b.At {
			return a.At - b.At
		}
		if a.Back {
			return 1
		}
		return -1
	})
	return list
}

// hit: P15.4, of all stops.
func (m model) hit(line string, stops []api.Caret, x int) api.Caret {
	x = brought(x, 0, m.columns)
	for d := 0; ; d++ {
		for _, c := range stops {
			if m.place(line, c) == x-d {
				return c
			}
		}
		for _, c := range stops {
			if m.place(line, c) == x+d {
				return c
			}
		}
	}
}

// told is cells as a text: of each one its text (_: a blank; .: nothing), its part, if it is none of the first, its bytes, and < if it runs from right to left.
func told(cells []api.Cell) string {
	var list []string
	for _, c := range cells {
		s := strings.Trim(strconv.QuoteToASCII(c.Text), `"`)
		switch c.Text {
		case "":
			s = "."
		case " ":
			s = "_"
		}
		if c.Part != 0 {
			s += " part " + strconv.Itoa(int(c.Part))
		}
		s += ":" + strconv.Itoa(c.At) + "+" + strconv.Itoa(c.Len)
		if c.Right {
			s += "<"
		}
		list = append(list, s)
	}
	return strings.Join(list, " ")
}

// texts is cells as a text, of each one but its text (_: a blank; .: nothing).
func texts(cells []api.Cell) string {
	s := ""
	for _, c := range cells {
		switch c.Text {
		case "":
			s += "."
		case " ":
			s += "_"
		default:
			s += c.Text
		}
	}
	return s
}

// carets is a list of carets as a text: the places, b behind those with Back.
func carets(list []api.Caret) string {
	var all []string
	for _, c := range list {
		s := strconv.Itoa(c.At)
		if c.Back {
			s += "b"
		}
		if c.Want != -1 {
			s += " want " + strconv.Itoa(c.Want)
		}
		all = append(all, s)
	}
	return strings.Join(all, " ")
}
