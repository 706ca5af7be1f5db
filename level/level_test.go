package level_test

import (
	"slices"
	"testing"

	"shuttle/api"
	"shuttle/level"
)

type dirs = []int8

// Short names of the classes, as the chapter's examples have them.
const (
	L   = api.DirL
	R   = api.DirR
	AL  = api.DirAL
	EN  = api.DirEN
	BN  = api.DirBN
	B   = api.DirB
	WS  = api.DirWS
	ON  = api.DirON
	LRE = api.DirLRE
	RLE = api.DirRLE
	LRO = api.DirLRO
	RLO = api.DirRLO
	PDF = api.DirPDF
	LRI = api.DirLRI
	RLI = api.DirRLI
	FSI = api.DirFSI
	PDI = api.DirPDI
)

// kinds are a class for each thing that the chapter tells apart, and numbers that are none.
var kinds = dirs{L, R, AL, EN, BN, B, LRE, RLE, LRO, RLO, PDF, LRI, RLI, FSI, PDI, 77, -1}

// few are such that much follows from how they stand.
var few = dirs{L, R, B, RLE, LRO, PDF, RLI, FSI, PDI}

// lists hands out l and all lists that have up to n of the classes behind it. What is handed out is not kept.
func lists(l, classes dirs, n int, f func(l dirs)) {
	f(l)
	if n == 0 {
		return
	}
	for _, dir := range classes {
		lists(append(l, dir), classes, n-1, f)
	}
}

// everyList hands out all lists that are short.
func everyList(f func(l dirs)) {
	lists(nil, kinds, 4, f)
	lists(nil, few, 5, f)
}

func sameRuns(a, b [][]int) bool { return slices.EqualFunc(a, b, slices.Equal[[]int]) }

func checkLevels(t *testing.T, l dirs, base uint8) {
	t.Helper()
	want, classes := levelsOf(l, base)
	if got, kinds := level.Levels(l, base); !slices.Equal(got, want) || !slices.Equal(kinds, classes) {
		t.Errorf("Levels(%v, %d) = %v, %v, not %v, %v", l, base, got, kinds, want, classes)
	}
}

func checkRuns(t *testing.T, l dirs, levels []uint8) {
	t.Helper()
	if got, want := level.Runs(l, levels), runsOf(l, levels); !sameRuns(got, want) {
		t.Errorf("Runs(%v, %v) = %v, not %v", l, levels, got, want)
	}
}

func checkSides(t *testing.T, l dirs, levels []uint8, base uint8, run []int) {
	t.Helper()
	sos, eos := sidesOf(l, levels, base, run)
	if a, b := level.Sides(l, levels, base, run); a != sos || b != eos {
		t.Errorf("Sides(%v, %v, %d, %v) = %d, %d, not %d, %d", l, levels, base, run, a, b, sos, eos)
	}
}

// P7.1

func TestBaseExamples(t *testing.T) {
	for _, x := range []struct {
		l    dirs
		want int8
		base uint8
	}{
		{dirs{WS, R, L}, api.WantAuto, 1}, {dirs{RLI, R, PDI, L}, api.WantAuto, 0}, {dirs{RLI, R}, api.WantAuto, 0}, {dirs{L}, api.WantRight, 1}, {dirs{B, R}, api.WantAuto, 0},
		{nil, api.WantAuto, 0}, {nil, api.WantRight, 1}, {nil, api.WantLeft, 0}, {dirs{R}, api.WantLeft, 0}, {dirs{R, L}, 3, 1}, {dirs{AL}, -1, 1}, {dirs{L, R}, 127, 0}, {dirs{R}, -128, 1},
		{dirs{PDI, AL}, api.WantAuto, 1}, {dirs{EN, ON, 77, -9, AL}, api.WantAuto, 1}, {dirs{RLE, L}, api.WantAuto, 0}, {dirs{RLE, BN, PDF}, api.WantAuto, 0},
		{dirs{LRI, L, FSI, L, PDI, L, PDI, R}, api.WantAuto, 1}, {dirs{LRI, L, FSI, L, PDI, R}, api.WantAuto, 0}, {dirs{R, B, L}, api.WantAuto, 1}, {dirs{LRI, B, R}, api.WantAuto, 0},
	} {
		if got := level.Base(x.l, x.want); got != x.base {
			t.Errorf("Base(%v, %d) = %d", x.l, x.want, got)
		}
	}
}

func TestBaseOfShortLists(t *testing.T) {
	everyList(func(l dirs) {
		for _, want := range []int8{api.WantAuto, api.WantLeft, api.WantRight, 3, -1} {
			if got, model := level.Base(l, want), baseOf(l, want); got != model {
				t.Errorf("Base(%v, %d) = %d, not %d", l, want, got, model)
			}
		}
	})
}

// P7.2

func TestPairsExamples(t *testing.T) {
	for _, x := range []struct {
		l     dirs
		pairs []int
	}{
		{dirs{LRI, RLI, PDI, PDI, PDI}, []int{3, 2, 1, 0, -1}}, {dirs{LRI, B, PDI}, []int{-1, -1, -1}}, {nil, nil},
		{dirs{FSI, RLE, R, PDF, PDI}, []int{4, -1, -1, -1, 0}}, {dirs{PDI, LRI, PDI}, []int{-1, 2, 1}}, {dirs{LRI, FSI, PDI, 77}, []int{-1, 2, 1, -1}}, {dirs{LRI, PDI, B, RLI, PDI}, []int{1, 0, -1, 4, 3}},
	} {
		if got := level.Pairs(x.l); !slices.Equal(got, x.pairs) {
			t.Errorf("Pairs(%v) = %v", x.l, got)
		}
	}
}

func TestPairsOfShortLists(t *testing.T) {
	everyList(func(l dirs) {
		if got, want := level.Pairs(l), pairsOf(l); !slices.Equal(got, want) {
			t.Errorf("Pairs(%v) = %v, not %v", l, got, want)
		}
	})
}

// P7.3

func TestLevelsExamples(t *testing.T) {
	for _, x := range []struct {
		l      dirs
		base   uint8
		levels []uint8
		kinds  dirs
	}{
		{dirs{L, RLE, L, PDF, L}, 0, []uint8{0, 0, 1, 0, 0}, dirs{L, BN, L, BN, L}},
		{dirs{RLO, L, EN, PDF, L}, 0, []uint8{0, 1, 1, 0, 0}, dirs{BN, R, R, BN, L}},
		{dirs{L, RLI, EN, PDI, L}, 0, []uint8{0, 0, 1, 0, 0}, dirs{L, RLI, EN, PDI, L}},
		{dirs{FSI, R, PDI}, 0, []uint8{0, 1, 0}, dirs{FSI, R, PDI}},
		{dirs{FSI, L, PDI}, 1, []uint8{1, 2, 1}, dirs{FSI, L, PDI}},
		{dirs{PDI, PDF, L}, 0, []uint8{0, 0, 0}, dirs{PDI, BN, L}},
		{dirs{RLE, B, L}, 1, []uint8{1, 1, 1}, dirs{BN, B, L}},
		{dirs{LRO, RLI, R, PDI}, 0, []uint8{0, 2, 3, 2}, dirs{BN, L, R, L}},
		{nil, 7, nil, nil},
		// A number that is no class counts as DirON, and is told as it.
		{dirs{77, -1, 23, 127, -128}, 0, []uint8{0, 0, 0, 0, 0}, dirs{ON, ON, ON, ON, ON}},
		{dirs{RLO, 77, EN}, 0, []uint8{0, 1, 1}, dirs{BN, R, R}},
		// What is said over does not reach into an isolate; it does into an embedding that says so itself alone.
		{dirs{RLO, LRI, EN, PDI, EN}, 0, []uint8{0, 1, 2, 1, 1}, dirs{BN, R, EN, R, R}},
		{dirs{RLO, LRE, EN, PDF, EN}, 0, []uint8{0, 1, 2, 1, 1}, dirs{BN, BN, EN, BN, R}},
		// A PDF does not end an isolate; a PDI ends the embeddings in it.
		{dirs{RLI, PDF, L, PDI, L}, 0, []uint8{0, 1, 1, 0, 0}, dirs{RLI, BN, L, PDI, L}},
		{dirs{RLI, LRE, LRO, PDI, L}, 0, []uint8{0, 1, 2, 0, 0}, dirs{RLI, BN, BN, PDI, L}},
		{dirs{RLE, PDI, L}, 0, []uint8{0, 1, 1}, dirs{BN, PDI, L}},
		// BN, and B within an override.
		{dirs{RLO, BN, B, L}, 0, []uint8{0, 1, 0, 0}, dirs{BN, BN, B, L}},
		// The first strong one: none; within an isolate; behind one that has no PDI; of the next paragraph.
		{dirs{FSI, EN, PDI}, 1, []uint8{1, 2, 1}, dirs{FSI, EN, PDI}},
		{dirs{FSI, LRI, L, PDI, AL, PDI}, 0, []uint8{0, 1, 2, 1, 1, 0}, dirs{FSI, LRI, L, PDI, AL, PDI}},
		{dirs{FSI, LRI, AL, B, R}, 0, []uint8{0, 2, 4, 0, 0}, dirs{FSI, LRI, AL, B, R}},
		{dirs{FSI, R}, 0, []uint8{0, 1}, dirs{FSI, R}},
		{dirs{FSI, PDI, R}, 0, []uint8{0, 0, 0}, dirs{FSI, PDI, R}},
	} {
		levels, kinds := level.Levels(x.l, x.base)
		if !slices.Equal(levels, x.levels) || !slices.Equal(kinds, x.kinds) {
			t.Errorf("Levels(%v, %d) = %v, %v", x.l, x.base, levels, kinds)
		}
	}
}

func TestLevelsOfShortLists(t *testing.T) {
	everyList(func(l dirs) {
		for _, base := range []uint8{0, 1, 122, 123, 124, 125, 126, 255} {
			checkLevels(t, l, base)
		}
	})
	lists(dirs{RLO}, few, 5, func(l dirs) { checkLevels(t, l, 123) })
}

func TestLevelsOfEveryBase(t *testing.T) {
	for base := range 256 {
		lists(nil, few, 2, func(l dirs) { checkLevels(t, l, uint8(base)) })
	}
}

// Signs that are nested as deep as may be, and deeper, and all of them ended.
func TestLevelsNested(t *testing.T) {
	ends := map[int8]int8{LRE: PDF, RLE: PDF, LRO: PDF, RLO: PDF, LRI: PDI, RLI: PDI, FSI: PDI}
	for a := range ends {
		for b := range ends {
			for n := 61; n <= 65; n += 2 {
				l := append(slices.Repeat(dirs{a, b, EN}, n), slices.Repeat(dirs{L, ends[b], R, ends[a]}, n+1)...)
				checkLevels(t, l, 0)
				checkLevels(t, l, 1)
				checkLevels(t, append(slices.Repeat(dirs{a, b}, n), slices.Repeat(dirs{PDI, EN, PDF, L}, n)...), 0)
			}
		}
	}
}

func TestLevelsAtTheBound(t *testing.T) {
	last := func(l dirs, base uint8) uint8 {
		levels, _ := level.Levels(append(l, L), base)
		return levels[len(l)]
	}
	for _, x := range []struct {
		l     dirs
		base  uint8
		level uint8
	}{
		{slices.Repeat(dirs{RLE}, 70), 0, 125}, {slices.Repeat(dirs{LRE}, 70), 0, 124}, {slices.Repeat(dirs{RLE, LRE}, 62), 0, 124}, {slices.Repeat(dirs{RLI, LRI}, 200), 0, 125},
		{append(slices.Repeat(dirs{RLI, LRI}, 62), LRI, PDI), 0, 124}, {append(slices.Repeat(dirs{RLI, LRI}, 62), LRI, PDI, RLI), 0, 125},
		// One that is too deep lets no other one in, even if that would not be.
		{append(slices.Repeat(dirs{RLI, LRI}, 62), LRE, RLE), 0, 124}, {append(slices.Repeat(dirs{RLI, LRI}, 62), LRE, PDF, RLE), 0, 125}, {append(slices.Repeat(dirs{RLI, LRI}, 62), LRI, RLE), 0, 124},
		{nil, 200, 125}, {dirs{LRE}, 126, 125}, {dirs{RLE}, 124, 125}, {dirs{LRE}, 124, 124},
	} {
		if got := last(x.l, x.base); got != x.level {
			t.Errorf("behind %v the level is %d, not %d", x.l, got, x.level)
		}
	}
}

// P7.4

func TestRunsExamples(t *testing.T) {
	for _, x := range []struct {
		l      dirs
		levels []uint8
		runs   [][]int
	}{
		{dirs{L, RLI, R, PDI, L}, []uint8{0, 0, 1, 0, 0}, [][]int{{0, 1, 3, 4}, {2}}},
		{dirs{L, RLE, R, PDF, L}, []uint8{0, 0, 1, 0, 0}, [][]int{{0}, {2}, {4}}},
		{dirs{L, B, L}, []uint8{0, 0, 0}, [][]int{{0, 1}, {2}}},
		{nil, nil, nil}, {dirs{L, L}, nil, nil}, {nil, []uint8{1}, nil}, {dirs{BN, LRE, PDF}, []uint8{0, 0, 2}, nil},
		{dirs{L, BN, L, BN}, []uint8{0, 3, 0, 0}, [][]int{{0, 2}}},
		// Lists of unlike lengths: the PDI does not count.
		{dirs{RLI, R, PDI}, []uint8{0, 1}, [][]int{{0}, {1}}}, {dirs{RLI, R}, []uint8{0, 1, 0}, [][]int{{0}, {1}}},
		// A sign that is not the last one of its stretch; a PDI that is not the first one of its.
		{dirs{RLI, L, PDI}, []uint8{0, 0, 1}, [][]int{{0, 1}, {2}}}, {dirs{RLI, L, PDI}, []uint8{0, 1, 1}, [][]int{{0}, {1, 2}}},
		{dirs{RLI, BN, PDI}, []uint8{0, 0, 0}, [][]int{{0, 2}}}, {dirs{RLI, BN, PDI}, []uint8{0, 0, 1}, [][]int{{0, 2}}},
		{dirs{RLI, R, PDI, RLI, R, PDI, L}, []uint8{0, 1, 0, 0, 1, 0, 0}, [][]int{{0, 2, 3, 5, 6}, {1}, {4}}},
		{dirs{RLI, LRI, R, PDI, PDI}, []uint8{0, 1, 2, 1, 0}, [][]int{{0, 4}, {1, 3}, {2}}},
		{dirs{RLI, B, PDI}, []uint8{0, 0, 0}, [][]int{{0, 1}, {2}}},
		{dirs{77, -1, ON}, []uint8{200, 200, 255}, [][]int{{0, 1}, {2}}},
	} {
		if got := level.Runs(x.l, x.levels); !sameRuns(got, x.runs) {
			t.Errorf("Runs(%v, %v) = %v", x.l, x.levels, got)
		}
	}
}

// numbers hands out all lists of n of the levels.
func numbers(levels []uint8, n int, f func(levels []uint8)) {
	list := make([]uint8, n)
	var fill func(at int)
	fill = func(at int) {
		if at == n {
			f(list)
			return
		}
		for _, level := range levels {
			list[at] = level
			fill(at + 1)
		}
	}
	fill(0)
}

func TestRunsOfShortLists(t *testing.T) {
	everyList(func(l dirs) {
		levels, _ := level.Levels(l, 1)
		checkRuns(t, l, levels)
	})
	lists(nil, dirs{L, BN, B, LRI, PDI}, 4, func(l dirs) {
		for n := max(len(l)-1, 0); n <= len(l)+1; n++ {
			numbers([]uint8{0, 1, 7}, n, func(levels []uint8) { checkRuns(t, l, levels) })
		}
	})
}

// P7.5

func TestSidesExamples(t *testing.T) {
	l, levels := dirs{L, RLI, R, PDI, L}, []uint8{0, 0, 1, 0, 0}
	for _, x := range []struct {
		l        dirs
		levels   []uint8
		base     uint8
		run      []int
		sos, eos int8
	}{
		{l, levels, 0, []int{2}, R, R}, {l, levels, 0, []int{0, 1, 3, 4}, L, L}, {dirs{RLI, R}, []uint8{0, 1}, 0, []int{0}, L, L}, {dirs{RLI, R}, []uint8{0, 1}, 0, []int{1}, R, R},
		// Of no run, and of such as has no place of the list: base as it is, however great.
		{nil, nil, 1, nil, R, R}, {nil, nil, 1, []int{5}, R, R}, {l, levels, 0, nil, L, L}, {l, levels, 255, []int{-1, 5, 1 << 62, -1 << 63}, R, R}, {l, levels, 126, nil, L, L},
		{l, levels, 0, []int{-1, 2, 5}, R, R}, {l, levels, 1, []int{0, 4}, R, R}, {l, levels, 126, []int{0, 4}, L, L}, {l, levels, 200, []int{0, 2}, L, R}, {l, levels, 201, []int{0, 4}, R, R},
		// Lists of unlike lengths.
		{l, levels[:2], 0, []int{2}, L, L}, {l[:2], levels, 0, []int{1}, L, L}, {l[:1], levels, 1, []int{0}, R, R},
		// What is left out, and another paragraph, is not looked at.
		{dirs{R, BN, L, RLE, R}, []uint8{3, 9, 2, 9, 5}, 0, []int{2}, R, R}, {dirs{BN, L, PDF}, []uint8{9, 2, 9}, 0, []int{1}, L, L}, {dirs{L, B, L, B, L}, []uint8{1, 1, 0, 0, 1}, 0, []int{2, 3}, L, L}, {dirs{L, B, L, B, L}, []uint8{1, 1, 0, 2, 1}, 0, []int{2}, L, L},
		// A sign that has its PDI looks behind itself.
		{dirs{RLI, R, PDI}, []uint8{0, 1, 0}, 0, []int{0}, L, R}, {dirs{RLI, R, PDI}, []uint8{0, 1}, 0, []int{0}, L, L}, {dirs{RLI, RLI, R, PDI}, []uint8{0, 1, 3, 1}, 0, []int{1}, R, R}, {dirs{RLI, RLI, R, PDI}, []uint8{0, 0, 1, 1}, 0, []int{0}, L, L},
		// The run need not rise: the first one and the last one are those of the list.
		{l, levels, 0, []int{2, 0}, R, L}, {l, levels, 0, []int{0, 2}, L, R}, {l, levels, 0, []int{3, 1}, R, R},
	} {
		if sos, eos := level.Sides(x.l, x.levels, x.base, x.run); sos != x.sos || eos != x.eos {
			t.Errorf("Sides(%v, %v, %d, %v) = %d, %d", x.l, x.levels, x.base, x.run, sos, eos)
		}
	}
}

func TestSidesOfShortLists(t *testing.T) {
	everyList(func(l dirs) {
		for base := range uint8(2) {
			levels, _ := level.Levels(l, base)
			for _, run := range level.Runs(l, levels) {
				checkSides(t, l, levels, base, run)
			}
		}
	})
	lists(nil, dirs{L, BN, B, LRI, PDI}, 4, func(l dirs) {
		numbers([]uint8{0, 1, 2}, len(l), func(levels []uint8) {
			for at := range l {
				checkSides(t, l, levels, 1, []int{at})
				checkSides(t, l, levels, 2, []int{at, len(l) - 1, 77})
			}
		})
	})
}
