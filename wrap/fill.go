package wrap

import (
	"shuttle/api"
	"shuttle/breaks"
	"shuttle/class"
	"shuttle/cluster"
	"shuttle/scan"
	"shuttle/show"
)

// part is a line as far as it counts: its text, what may be done behind each cluster, and how its last row ends.
type part struct {
	text  string
	where []int8
	end   int8
}

// counted is what of the line counts: all up to the first cluster behind which it must be broken.
func counted(line string) part {
	where := breaks.Where(line)
	n := 0
	for at := range cluster.All(line) {
		if where[n] == api.Must {
			return part{line[:at], where, api.EndLine}
		}
		n++
	}
	return part{line, where, api.EndText}
}

// stop is a place at which a row may end: how many bytes and clusters of the line stand ahead of it, and how many columns of the row.
type stop struct {
	at, clusters, wide int
}

// behind is the stop behind the cluster c, which stands at s and has n columns.
func (s stop) behind(c string, n int) stop {
	return stop{s.at + len(c), s.clusters + 1, s.wide + n}
}

// filled fills a row of w columns from a stop on, and tells where it ends, and how.
func (p part) filled(from stop, w int, l api.Look) (stop, int8) {
	from.wide = 0
	now, word, hangs := from, from, false
	for _, c := range cluster.All(p.text[from.at:]) {
		// The bytes themselves are asked of: a bad byte has more columns than FFFD, for which it stands.
		_, n := show.Text(c, now.wide, l)
		if hangs || now.wide+n > w {
			if !isBlank(c) {
				if now == from {
					now = now.behind(c, n)
				}
				goto full
			}
			hangs, n = true, 0
		}
		now = now.behind(c, n)
		if p.where[now.clusters-1] == api.May {
			word = now
		}
	}
	return now, p.end

full:
	if word != from {
		return word, api.EndWord
	}
	// A cluster that is wider than a row may have been the last one.
	if now.at == len(p.text) {
		return now, p.end
	}
	return now, api.EndCut
}

// isBlank tells whether the cluster c may hang over a row's end.
func isBlank(c string) bool {
	x, _ := scan.Next(c)
	return class.Break(x) == api.BreakSpace
}
