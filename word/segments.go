package word

import (
	"iter"

	"shuttle/cluster"
)

// onward goes over the segments of s that stand behind start, which is a border of segments.
func onward(s string, start int) iter.Seq2[int, string] {
	return func(yield func(int, string) bool) {
		from, last := start, none
	clusters:
		for at, c := range cluster.All(s[start:]) {
			border := start + at
			ahead := last
			last = sortIn(s, border, border+len(c))
			if border == start || together(ahead, last) {
				continue clusters
			}
			if !yield(from, s[from:border]) {
				return
			}
			from = border
		}
		if from < len(s) {
			yield(from, s[from:])
		}
	}
}

// backward goes over the segments of s that begin ahead of start, which is a border of clusters, from the last to the first. The last one may be told without what it has behind start: so nobody needs to know where it ends.
func backward(s string, start int) iter.Seq2[int, string] {
	return func(yield func(int, string) bool) {
		to, first := start, none
	clusters:
		for at, c := range cluster.Back(s[:start]) {
			border := at + len(c)
			behind := first
			first = sortIn(s, at, border)
			if border == start || together(first, behind) {
				continue clusters
			}
			if !yield(border, s[border:to]) {
				return
			}
			to = border
		}
		if to > 0 {
			yield(0, s[:to])
		}
	}
}
