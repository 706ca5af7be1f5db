package norm

import (
	"strings"
	"unicode/utf8"

	"shuttle/class"
	"shuttle/scan"
)

// piece is a character, or a bad byte: one that pairs with nothing, as the character 0 does.
type piece struct {
	r      rune
	number uint8 // its mark's
	bad    byte  // 0: it is a character, as no bad byte is below 80
}

func (p piece) mark() uint8 { return p.number }

// apart tells the pieces of s, each character taken apart, rows of marks in order.
func apart(s string) []piece {
	l := make([]piece, 0, len(s))
	var parts []rune
	for at := 0; at < len(s); {
		r, size := scan.Next(s[at:])
		if size == 1 && s[at] >= utf8.RuneSelf {
			l = append(l, piece{bad: s[at]})
		} else {
			parts = split(parts[:0], r)
			for _, part := range parts {
				l = append(l, piece{r: part, number: class.Mark(part)})
			}
		}
		at += size
	}
	orderRows(l, piece.mark)
	return l
}

// text is the bytes of the pieces.
func text(l []piece) string {
	var b strings.Builder
	for _, p := range l {
		if p.bad != 0 {
			b.WriteByte(p.bad)
		} else {
			b.WriteRune(p.r)
		}
	}
	return b.String()
}

// orderRows puts each row of what are no starters, as long as can be, in the order of the numbers.
func orderRows[T any](l []T, number func(T) uint8) {
	begin := 0
	for at, x := range l {
		if number(x) == 0 {
			orderRow(l[begin:at], number)
			begin = at + 1
		}
	}
	orderRow(l[begin:], number)
}

// orderRow puts the row in the order of the numbers, those of one number as they stand.
func orderRow[T any](row []T, number func(T) uint8) {
	if len(row) < 2 {
		return
	}
	// A pile for each number takes one step for each of the row, be it as long as a text.
	var piles [1 << 8][]T
	for _, x := range row {
		n := number(x)
		piles[n] = append(piles[n], x)
	}
	row = row[:0]
	for _, pile := range piles[:] {
		row = append(row, pile...)
	}
}
