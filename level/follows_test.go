package level_test

import (
	"slices"
	"testing"

	"shuttle/api"
	"shuttle/level"
)

// drawing is a row of numbers that is the same at each run.
type drawing uint32

func (d *drawing) below(n int) int {
	*d = *d*1664525 + 1013904223
	return int(*d>>16) % n
}

// mixed hands out n lists of up to 90 of the classes, in which one class often stands many times in a row, so that it goes too deep.
func mixed(n int, classes dirs, f func(l dirs)) {
	d := drawing(1)
	for range n {
		var l dirs
		for left := d.below(90); left > 0; {
			dir, times := classes[d.below(len(classes))], 1
			if d.below(6) == 0 {
				times = 1 + d.below(left)
			}
			l = append(l, slices.Repeat(dirs{dir}, times)...)
			left -= times
		}
		f(l)
	}
}

func TestMixedLists(t *testing.T) {
	base := uint8(0)
	mixed(3000, kinds, func(l dirs) {
		checkLevels(t, l, base)
		levels, _ := level.Levels(l, base)
		checkRuns(t, l, levels)
		for _, run := range level.Runs(l, levels) {
			checkSides(t, l, levels, base, run)
		}
		base += 7
	})
}

func TestMixedLevels(t *testing.T) {
	d := drawing(7)
	mixed(2000, kinds, func(l dirs) {
		levels := make([]uint8, d.below(len(l)+3))
		for i := range levels {
			levels[i] = uint8(d.below(3))
		}
		checkRuns(t, l, levels)
		run := make([]int, d.below(4))
		for i := range run {
			run[i] = d.below(len(l)+3) - 1
		}
		checkSides(t, l, levels, uint8(d.below(3)), run)
	})
}

// P7.6

func TestWithoutSignsAllIsBase(t *testing.T) {
	plain := make(dirs, 256)
	for i := range plain {
		plain[i] = int8(i)
	}
	plain = slices.DeleteFunc(plain, func(dir int8) bool { return LRE <= dir && dir <= PDI })
	mixed(300, plain, func(l dirs) {
		for base := range 256 {
			levels, kinds := level.Levels(l, uint8(base))
			for at := range l {
				if levels[at] != uint8(min(base, api.MaxDepth)) || kinds[at] != counts(l[at]) {
					t.Fatalf("Levels(%v, %d) = %v, %v", l, base, levels, kinds)
				}
			}
		}
	})
}

func TestLevelsAreWithinBounds(t *testing.T) {
	base := uint8(0)
	mixed(3000, kinds, func(l dirs) {
		levels, kinds := level.Levels(l, base)
		for at := range l {
			if levels[at] < min(base, api.MaxDepth) || levels[at] > api.MaxDepth || kinds[at] != counts(kinds[at]) {
				t.Errorf("Levels(%v, %d) = %v, %v", l, base, levels, kinds)
			}
		}
		base++
	})
}

func TestEachPlaceStandsInOneRun(t *testing.T) {
	check := func(l dirs, levels []uint8, one bool) {
		var seen []int
		first := -1
		for _, run := range level.Runs(l, levels) {
			if len(run) == 0 || run[0] < first || !slices.IsSorted(run) {
				t.Fatalf("Runs(%v, %v) = %v", l, levels, level.Runs(l, levels))
			}
			first = run[0]
			for _, at := range run {
				if one && levels[at] != levels[first] {
					t.Errorf("Runs(%v, %v): in %v is more than one level", l, levels, run)
				}
			}
			seen = append(seen, run...)
		}
		slices.Sort(seen)
		var want []int
		for at := range min(len(l), len(levels)) {
			if !leftOut(l[at]) {
				want = append(want, at)
			}
		}
		if !slices.Equal(seen, want) {
			t.Errorf("Runs(%v, %v) have %v, not %v", l, levels, seen, want)
		}
	}
	d := drawing(3)
	mixed(3000, kinds, func(l dirs) {
		levels, _ := level.Levels(l, uint8(d.below(130)))
		check(l, levels, true)
		for i := range levels {
			levels[i] = uint8(d.below(3))
		}
		check(l, levels, false)
	})
}

func TestPairsGoBothWays(t *testing.T) {
	mixed(3000, kinds, func(l dirs) {
		pairs := level.Pairs(l)
		for at, other := range pairs {
			if other >= 0 && (pairs[other] != at || other == at || begins(l[min(at, other)]) != (l[max(at, other)] == PDI)) {
				t.Errorf("Pairs(%v) = %v", l, pairs)
			}
		}
	})
}

// P7.7

// closed is l without B and without what would make another PDI the sign's.
func closed(l dirs) dirs {
	var in dirs
	open := 0
	for _, dir := range l {
		switch {
		case dir == B || dir == PDI && open == 0:
			continue
		case dir == PDI:
			open--
		case begins(dir):
			open++
		}
		in = append(in, dir)
	}
	return append(in, slices.Repeat(dirs{PDI}, open)...)
}

func TestIsolatesStandApart(t *testing.T) {
	d := drawing(5)
	var ahead, other dirs
	mixed(6000, kinds, func(l dirs) {
		sign := dirs{LRI, RLI, FSI}[d.below(3)]
		list := func(within dirs) dirs {
			return slices.Concat(ahead, dirs{sign}, closed(within), dirs{PDI}, other)
		}
		a, b := list(l), list(other)
		base := uint8(d.below(126))
		levels, kinds := level.Levels(a, base)
		levelsOther, kindsOther := level.Levels(b, base)
		n, behind := len(ahead)+1, len(other)+1
		same := slices.Equal(levels[:n], levelsOther[:n]) && slices.Equal(kinds[:n], kindsOther[:n]) &&
			slices.Equal(levels[len(a)-behind:], levelsOther[len(b)-behind:]) && slices.Equal(kinds[len(a)-behind:], kindsOther[len(b)-behind:])
		if !same {
			t.Errorf("Levels(%v, %d) = %v, but of %v they are %v", a, base, levels, b, levelsOther)
		}
		ahead, other = other, slices.Clone(l)
	})
}

// P7.8

// parts are the paragraphs of l.
func parts(l dirs) []dirs {
	var all []dirs
	borders := paragraphs(l)
	for i := range len(borders) - 1 {
		all = append(all, l[borders[i]:borders[i+1]])
	}
	return all
}

func TestParagraphs(t *testing.T) {
	base := uint8(0)
	mixed(3000, append(dirs{B}, kinds...), func(l dirs) {
		var levels []uint8
		var classes dirs
		var pairs []int
		var runs [][]int
		for _, part := range parts(l) {
			from := len(levels)
			n, k := level.Levels(part, base)
			for _, other := range level.Pairs(part) {
				if other >= 0 {
					other += from
				}
				pairs = append(pairs, other)
			}
			for _, run := range level.Runs(part, n) {
				for i := range run {
					run[i] += from
				}
				runs = append(runs, run)
			}
			levels, classes = append(levels, n...), append(classes, k...)
		}
		if n, k := level.Levels(l, base); !slices.Equal(n, levels) || !slices.Equal(k, classes) {
			t.Errorf("Levels(%v, %d) are not those of its paragraphs", l, base)
		}
		if !slices.Equal(level.Pairs(l), pairs) || !sameRuns(level.Runs(l, levels), runs) {
			t.Errorf("Pairs or Runs of %v are not those of its paragraphs", l)
		}
		base++
	})
}

// R1: lists that are long are gone through in steps as many as they have classes.

func TestLongLists(t *testing.T) {
	const n = 1 << 20
	for _, part := range []dirs{{L}, {B}, {BN}, {LRI}, {FSI}, {PDI}, {RLE}, {RLE, PDF}, {FSI, PDI}, {RLE, L, PDF, R}, {FSI, R, PDI, L}, {LRI, B}} {
		l := slices.Repeat(part, n/len(part))
		for _, l := range []dirs{l, append(slices.Repeat(dirs{FSI}, n/2), slices.Repeat(dirs{PDI}, n/2)...), append(slices.Repeat(dirs{RLI, LRO}, 50), l...)} {
			levels, kinds := level.Levels(l, 1)
			runs := level.Runs(l, levels)
			if len(levels) != len(l) || len(kinds) != len(l) || len(level.Pairs(l)) != len(l) {
				t.Errorf("of %d classes %v: %d levels, %d kinds", len(l), part, len(levels), len(kinds))
			}
			for _, run := range runs {
				level.Sides(l, levels, 1, run)
			}
			level.Base(l, api.WantAuto)
		}
	}
}

// R2 and R3

func TestNothingIsChangedOrShared(t *testing.T) {
	room := dirs{L, RLI, RLO, R, PDF, PDI, L, BN, 77, 77}
	l := room[:8:10]
	levels, kinds := level.Levels(l, 1)
	runs := level.Runs(l, levels)
	run := slices.Clone(runs[0])
	level.Sides(l, levels, 1, run)
	if !slices.Equal(room, dirs{L, RLI, RLO, R, PDF, PDI, L, BN, 77, 77}) || !slices.Equal(run, runs[0]) {
		t.Errorf("changed to %v, %v", room, run)
	}
	for i, run := range runs {
		run = append(run, 91, 92, 93)
		for j := range run {
			run[j] = 90 + i
		}
	}
	for i := range levels {
		levels[i], kinds[i] = 9, 9
	}
	pairs := level.Pairs(l)
	pairs[0] = 99
	checkLevels(t, l, 1)
	levels, _ = level.Levels(l, 1)
	checkRuns(t, l, levels)
	if !slices.Equal(level.Pairs(l), pairsOf(l)) {
		t.Errorf("Pairs(%v) = %v", l, level.Pairs(l))
	}
	runs = level.Runs(l, levels)
	first, rest := slices.Clone(runs[0]), append(runs[0], 91, 92, 93, 94)
	for i := range rest {
		rest[i] = 90
	}
	if want := runsOf(l, levels); !sameRuns(runs[1:], want[1:]) || !slices.Equal(first, want[0]) {
		t.Errorf("two runs share memory: %v", runs)
	}
}

func TestManyAskAtOneTime(t *testing.T) {
	l := slices.Repeat(dirs{L, RLI, RLO, R, PDF, PDI, FSI, AL, PDI, B}, 20)
	want, _ := levelsOf(l, 0)
	runs := runsOf(l, want)
	done := make(chan bool)
	for range 4 {
		go func() {
			same := true
			for range 100 {
				levels, _ := level.Levels(l, 0)
				same = same && slices.Equal(levels, want) && sameRuns(level.Runs(l, levels), runs)
			}
			done <- same
		}()
	}
	for range 4 {
		if !<-done {
			t.Error("other levels or runs where many ask at one time")
		}
	}
}
