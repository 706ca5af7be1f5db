package wrap_test

import (
	"strconv"
	"strings"
	"unicode/utf8"

	"shuttle/api"
	"shuttle/breaks"
	"shuttle/class"
	"shuttle/cluster"
	"shuttle/show"
	"shuttle/visual"
)

// The model is the chapter's sentences: all clusters are laid into a list, and of each stretch of it is asked whether a row may have it.

// list is the clusters of a line as far as it counts, what may be done behind each one, and whether the line has an end.
type list struct {
	clusters []string
	where    []int8
	ended    bool
}

func listed(line string) list {
	var l list
	where := breaks.Where(line)
	for _, c := range cluster.All(line) {
		may := where[len(l.clusters)]
		if may == api.Must {
			l.ended = true
			return l
		}
		l.clusters = append(l.clusters, c)
		l.where = append(l.where, may)
	}
	return l
}

func blank(c string) bool {
	x, _ := utf8.DecodeRuneInString(c)
	return class.Break(x) == api.BreakSpace
}

// has tells whether a row of w columns has all these clusters, and how many columns it has by then.
func has(clusters []string, w int, look api.Look) (bool, int) {
	columns, hanging := 0, 0
	for _, c := range clusters {
		_, n := show.Text(c, columns, look)
		switch {
		case blank(c) && (columns+n > w || hanging > 0):
			hanging++
		case columns+n <= w && hanging == 0:
			columns += n
		default:
			return false, 0
		}
	}
	return true, columns
}

// first is the first row of l: how many clusters it has, its columns, and its end.
func (l list) first(w int, look api.Look) (int, int, int8) {
	most := 0
	for most < len(l.clusters) {
		if ok, _ := has(l.clusters[:most+1], w, look); !ok {
			break
		}
		most++
	}
	alone := most == 0 && len(l.clusters) > 0
	if alone {
		most = 1
	}
	n, end := most, int8(api.EndCut)
	switch {
	case most == len(l.clusters) && l.ended:
		end = api.EndLine
	case most == len(l.clusters):
		end = api.EndText
	case !alone:
		for n > 0 && l.where[n-1] != api.May {
			n--
		}
		if n > 0 {
			end = api.EndWord
		} else {
			n = most
		}
	}
	if alone {
		_, columns := show.Text(l.clusters[0], 0, look)
		return n, columns, end
	}
	_, columns := has(l.clusters[:n], w, look)
	return n, columns, end
}

// rows are those of the line.
func rows(line string, w int, look api.Look) []api.Row {
	if w < 1 || w > api.MaxSide || len(line) > api.MaxLine {
		return nil
	}
	l := listed(line)
	level := uint8(0)
	if !look.Raw {
		_, level = visual.Levels([]rune(strings.Join(l.clusters, "")), look.Want)
	}
	var all []api.Row
	for at := 0; ; {
		n, columns, end := l.first(w, look)
		text := strings.Join(l.clusters[:n], "")
		all = append(all, api.Row{At: at, Len: len(text), Level: level, Wide: columns, End: end})
		if end == api.EndText || end == api.EndLine {
			return all
		}
		at += len(text)
		l.clusters, l.where = l.clusters[n:], l.where[n:]
	}
}

// told is rows as a text: of each one what stands in it, its columns, how it ends, and its level, if that is not 0.
func told(line string, all []api.Row) string {
	var parts []string
	for i, row := range all {
		if i == 12 {
			parts = append(parts, "and more")
			break
		}
		if row.At < 0 || row.Len < 0 || row.At > len(line) || row.Len > len(line)-row.At || row.End < api.EndText || row.End > api.EndCut {
			parts = append(parts, "no row")
			continue
		}
		end := []string{"text", "line", "word", "cut"}[row.End]
		part := strconv.QuoteToASCII(line[row.At:row.At+row.Len]) + " " + strconv.Itoa(row.Wide) + " " + end
		if row.Level != 0 {
			part += " level " + strconv.Itoa(int(row.Level))
		}
		parts = append(parts, part)
	}
	return strings.Join(parts, ", ")
}
