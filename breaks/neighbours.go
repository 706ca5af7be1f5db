package breaks

import (
	"iter"

	"shuttle/api"
	"shuttle/class"
	"shuttle/cluster"
	"shuttle/scan"
)

// nothing stands for the class of a cluster where there is none.
const nothing int8 = -1

// neighbourhood is what the rules ask of: the classes of a cluster a, of b, the one behind it, and of the solid one at a.
type neighbourhood struct {
	a, b, solid int8
}

// spaced tells whether a is a Space.
func (n neighbourhood) spaced() bool { return n.a == api.BreakSpace }

// onward is the neighbourhood of what was b, behind which a cluster of the class b stands now.
func (n neighbourhood) onward(b int8) neighbourhood {
	n.a, n.b = n.b, b
	if !n.spaced() {
		n.solid = n.a
	}
	return n
}

// neighbours goes over the clusters of s: where each one ends, and its neighbourhood.
func neighbours(s string) iter.Seq2[int, neighbourhood] {
	return func(yield func(int, neighbourhood) bool) {
		n := neighbourhood{nothing, nothing, nothing}
		for at, c := range cluster.All(s) {
			n = n.onward(classOf(c))
			// What ends at 0 is no cluster.
			if at > 0 && !yield(at, n) {
				return
			}
		}
		if s != "" {
			yield(len(s), n.onward(nothing))
		}
	}
}

// classOf tells the class of the cluster c. A bad byte is asked for as FFFD, which is of BreakAlpha, as a bad byte is to be; a mark's class stays BreakMark, which no rule names, as none names BreakAlpha.
func classOf(c string) int8 {
	x, _ := scan.Next(c)
	return class.Break(x)
}
