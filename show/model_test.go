package show_test

import (
	"math/big"
	"strconv"
	"strings"
	"unicode/utf8"

	"shuttle/api"
	"shuttle/class"
	"shuttle/cluster"
)

// The model is the chapter's sections Words and Promises, row by row and sentence by sentence, with whole numbers of any size. Of the program it asks class and cluster alone.

// between is the digits of n, at least so many, between < and >.
func between(n int64, least int) string {
	digits := strconv.FormatInt(n, 16)
	return "<" + strings.Repeat("0", max(least-len(digits), 0)) + digits + ">"
}

// blanksAt tells the columns of a tab at the column col.
func blanksAt(col *big.Int, l api.Look) int {
	stop := int64(8)
	if 1 <= l.Tab && l.Tab <= 16 {
		stop = int64(l.Tab)
	}
	if col.Sign() < 0 {
		col = new(big.Int)
	}
	rest := new(big.Int).Rem(col, big.NewInt(stop))
	return int(stop - rest.Int64())
}

// shownOf goes through the table of P6.1 from its first row on; c is one cluster, or empty.
func shownOf(c string, col *big.Int, l api.Look) (string, int) {
	if c == "" {
		return "", 0
	}
	if !utf8.ValidString(c) {
		return between(int64(c[0]), 2), 4
	}
	runes := []rune(c)
	x := runes[0]
	if x == 0x09 {
		n := blanksAt(col, l)
		return strings.Repeat(" ", n), n
	}
	if c == "\x0A" || c == "\x0D\x0A" {
		return "", 0
	}
	if 0x00 <= x && x <= 0x1F {
		return "^" + string(x+0x40), 2
	}
	if x == 0x7F {
		return "^?", 2
	}
	if 0x80 <= x && x <= 0x9F || x == 0x2028 || x == 0x2029 || class.Kind(x) == api.KFormat && x != 0x200C && x != 0x200D {
		if l.Raw {
			return between(int64(x), 4), len(between(int64(x), 4))
		}
		return "", 0
	}
	if class.Kind(x) == api.KMark || x == 0x200C || x == 0x200D {
		if len(runes) == api.MaxRunes {
			runes = runes[:31]
		}
		return "\u25CC" + string(runes), 1
	}
	wide := class.Wide(x, l.Wide)
	if len(runes) > 1 {
		y := runes[1]
		if 0x1F1E6 <= x && x <= 0x1F1FF && 0x1F1E6 <= y && y <= 0x1F1FF {
			return c, 2
		}
		if class.Kind(x) == api.KSymbol && wide == 1 && y == 0xFE0F {
			return c, 2
		}
	}
	if wide == 0 {
		return "", 0
	}
	return c, wide
}

// clusters is the clusters of s.
func clusters(s string) []string {
	var l []string
	for _, c := range cluster.All(s) {
		l = append(l, c)
	}
	return l
}

func textOf(c string, col int, l api.Look) (string, int) {
	if c == "" {
		return "", 0
	}
	return shownOf(clusters(c)[0], big.NewInt(int64(col)), l)
}

func wideOf(s string, col int, l api.Look) int {
	at := big.NewInt(int64(max(col, 0)))
	all := 0
	for _, c := range clusters(s) {
		_, wide := shownOf(c, at, l)
		at.Add(at, big.NewInt(int64(wide)))
		all += wide
	}
	return all
}

// cutOf asks every border of s.
func cutOf(s string, w int, l api.Look) int {
	greatest := 0
	for p := range len(s) + 1 {
		if w >= 0 && cluster.Is(s, p) && wideOf(s[:p], 0, l) <= w {
			greatest = p
		}
	}
	return greatest
}

func plainOf(s string) string {
	plain := ""
	for _, c := range clusters(s) {
		shown, _ := shownOf(c, new(big.Int), api.Look{Raw: true})
		switch c {
		case "\x09":
			shown = "^I"
		case "\x0A":
			shown = "^J"
		case "\x0D\x0A":
			shown = "^M^J"
		}
		plain += shown
	}
	return plain
}
