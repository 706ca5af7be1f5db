package visual_test

import (
	"slices"
	"strings"
	"sync"
	"testing"

	"shuttle/api"
	"shuttle/class"
	"shuttle/level"
	"shuttle/visual"
)

// drawing is a row of numbers that is the same at each run.
type drawing uint32

func (d *drawing) below(n int) int {
	*d = *d*1664525 + 1013904223
	return int(*d>>16) % n
}

// mixed hands out n lists of up to 120 of the characters, in which one character often stands several times in a row, so that it goes too deep.
func mixed(n int, of string, f func(l []rune)) {
	d := drawing(1)
	chars := text(of)
	for range n {
		var l []rune
		for left := d.below(120); left > 0; {
			r, times := chars[d.below(len(chars))], 1
			if d.below(8) == 0 {
				times = 1 + d.below(left)
			}
			l = append(l, slices.Repeat([]rune{r}, times)...)
			left -= times
		}
		f(l)
	}
}

// everyMixed hands out lists of all characters, such as have few signs, and such as go deep.
func everyMixed(f func(l []rune)) {
	mixed(1500, all, f)
	mixed(1000, "aRA1+$6,*  ()[]!!|_", f)
	mixed(1000, "aR1 ()iIFpppp~", f)
	mixed(1000, "aR1>><<oO^^~", f)
}

// mixedLevels hands out n lists of up to 60 levels, most of them near one another.
func mixedLevels(n int, f func(levels []uint8)) {
	d := drawing(9)
	for range n {
		levels := make([]uint8, d.below(60))
		near, wide := d.below(250), 1+d.below(6)
		for at := range levels {
			levels[at] = uint8(near + d.below(wide))
			if d.below(20) == 0 {
				levels[at] = uint8(d.below(256))
			}
		}
		f(levels)
	}
}

func TestMixedLists(t *testing.T) {
	d := drawing(3)
	everyMixed(func(l []rune) {
		for _, want := range wants {
			checkLevels(t, l, want)
		}
		levels := make([]uint8, len(l)+d.below(3))
		for at := range levels {
			levels[at] = uint8(d.below(256))
		}
		for range 4 {
			checkRow(t, l, levels, uint8(d.below(256)), d.below(len(l)+4)-2, d.below(len(l)+4)-2)
		}
	})
}

func TestMixedLevels(t *testing.T) {
	mixedLevels(3000, func(levels []uint8) { checkOrder(t, levels) })
}

// P10.6

// checkOrderIsOne holds what the document says of all orders against that of the levels.
func checkOrderIsOne(t *testing.T, levels []uint8) {
	t.Helper()
	order := visual.Order(levels)
	seen := visual.Turned(order)
	if sorted := slices.Sorted(slices.Values(order)); len(order) != len(levels) || !slices.Equal(sorted, visual.Order(make([]uint8, len(levels)))) {
		t.Errorf("Order(%v) = %v: not each place once", levels, order)
	}
	for at, place := range order {
		if seen[place] != at {
			t.Errorf("Turned(%v) = %v", order, seen)
		}
	}
	if again := visual.Turned(seen); !slices.Equal(again, order) {
		t.Errorf("Turned(%v) = %v, not %v", seen, again, order)
	}
	for n := range uint8(127) {
		for from := 0; from < len(levels); from++ {
			to := from
			for to < len(levels) && countsAs(levels[to]) >= n {
				to++
			}
			if stretch := seen[from:to]; to > from && slices.Max(stretch)-slices.Min(stretch) != to-from-1 {
				t.Errorf("Order(%v) = %v: the places from %d up to %d do not stand side by side", levels, order, from, to)
			}
			from = to
		}
	}
}

func TestOrderIsOne(t *testing.T) {
	lists(nil, []uint8{0, 1, 2, 3}, 5, func(levels []uint8) { checkOrderIsOne(t, levels) })
	mixedLevels(1000, func(levels []uint8) { checkOrderIsOne(t, levels) })
	mixed(500, all, func(l []rune) {
		levels, _ := visual.Levels(l, api.WantAuto)
		checkOrderIsOne(t, levels)
	})
}

func TestOrderOfOneLevel(t *testing.T) {
	for n := range 20 {
		for level := range uint8(127) {
			order := visual.Order(slices.Repeat([]uint8{level}, n))
			if level%2 == 1 {
				slices.Reverse(order)
			}
			if !slices.IsSorted(order) || len(order) != n {
				t.Errorf("of %d times the level %d the order is another one", n, level)
			}
		}
	}
}

// P10.7

func TestLevelsAreWithinBounds(t *testing.T) {
	top := uint8(0)
	check := func(l []rune) {
		for _, want := range wants {
			levels, base := visual.Levels(l, want)
			if len(levels) != len(l) {
				t.Errorf("Levels(%x, %d) has %d", l, want, len(levels))
			}
			for _, level := range levels {
				top = max(top, level)
				if level < base || level > api.MaxDepth+1 {
					t.Errorf("Levels(%x, %d) = %v, %d", l, want, levels, base)
				}
			}
		}
	}
	everyMixed(check)
	check(text(strings.Repeat(">", 200) + strings.Repeat("I", 200) + "a1R"))
	if top != 126 {
		t.Errorf("the greatest level was %d", top)
	}
}

func TestALineOfLIsOfTheLevelNone(t *testing.T) {
	check := func(l []rune) {
		for _, want := range []int8{api.WantAuto, api.WantLeft} {
			if levels, base := visual.Levels(l, want); base != 0 || slices.ContainsFunc(levels, func(level uint8) bool { return level != 0 }) {
				t.Errorf("Levels(%x, %d) = %v, %d", l, want, levels, base)
			}
		}
	}
	plain := "ab !?()[]<>;&\u4E16\u00AB"
	for _, r := range plain {
		check([]rune{r})
	}
	d := drawing(5)
	for range 500 {
		l := make([]rune, d.below(50))
		for at := range l {
			l[at] = []rune(plain)[d.below(len([]rune(plain)))]
		}
		check(l)
	}
}

func TestPartsBehindB(t *testing.T) {
	of := func(base uint8) int8 { return []int8{api.WantLeft, api.WantRight}[base] }
	check := func(l []rune) {
		for _, want := range wants {
			levels, base := visual.Levels(l, want)
			for at, r := range l {
				if class.Dir(r) != api.DirB {
					continue
				}
				a, _ := visual.Levels(l[:at+1], of(base))
				b, _ := visual.Levels(l[at+1:], of(base))
				if !slices.Equal(levels, append(a, b...)) {
					t.Errorf("Levels(%x, %d) = %v, but of the parts %v, %v", l, want, levels, a, b)
				}
				if levels[at] != base {
					t.Errorf("Levels(%x, %d) = %v: B is not of the base %d", l, want, levels, base)
				}
			}
		}
	}
	mixed(1500, "aRA1+$6,*~||_ !<>oO^iIFp()[]", check)
	lists(nil, text("aR1|~I(p"), 4, check)
}

// closed is l without B and without what would make another PDI the sign's.
func closed(l []rune) (in []rune) {
	open := 0
	for _, r := range l {
		switch dir := class.Dir(r); {
		case dir == api.DirB || dir == api.DirPDI && open == 0:
			continue
		case dir == api.DirPDI:
			open--
		case dir == api.DirLRI || dir == api.DirRLI || dir == api.DirFSI:
			open++
		}
		in = append(in, r)
	}
	return append(in, slices.Repeat(text("p"), open)...)
}

// isTooDeep tells whether the isolate that begins at the place at is.
func isTooDeep(l []rune, at int, base uint8) bool {
	levels, _ := level.Levels(dirsOf(l), base)
	return levels[at+1] == levels[at]
}

func TestIsolatesStandApart(t *testing.T) {
	d := drawing(5)
	var ahead, other []rune
	held := 0
	everyMixed(func(l []rune) {
		sign := text("iIF")[d.below(3)]
		list := func(within []rune) []rune {
			return slices.Concat(ahead, []rune{sign}, closed(within), text("p"), other)
		}
		a, b := list(append(text("R"), l...)), list(append(text("a"), other...))
		n, behind := len(ahead), len(other)+1
		for _, want := range wants {
			levels, base := visual.Levels(a, want)
			levelsOther, baseOther := visual.Levels(b, want)
			if isTooDeep(a, n, base) || isTooDeep(b, n, base) {
				continue
			}
			held++
			if base != baseOther || !slices.Equal(levels[:n+1], levelsOther[:n+1]) || !slices.Equal(levels[len(a)-behind:], levelsOther[len(b)-behind:]) {
				t.Errorf("Levels(%x, %d) = %v, but of %x they are %v", a, want, levels, b, levelsOther)
			}
		}
		ahead, other = other, slices.Clone(l)
	})
	if held < 4000 {
		t.Errorf("only %d times an isolate was not too deep", held)
	}
}

// R1: lists that are long are gone through in steps as many as they have characters.

func TestLongLists(t *testing.T) {
	const n = 1 << 19
	for s, want := range map[string]string{
		"a": "0", "R": "1", "|": "0", "~": "0", " ": "0", "1": "0", "*": "0", "^": "0", "p": "0", "aR": "01", "R|": "10", "6 a": "200", "a(R)": "0010", ">R^a": "0110", "Ia1pa": "02200", "R, a": "1000", "Fp": "00", "R1": "12", "(a": "00", "|IR": "001",
	} {
		l := slices.Repeat(text(s), n/len(s))
		got, _ := visual.Levels(l, api.WantLeft)
		levels := make([]uint8, 0, n)
		for range n / len(s) {
			for _, digit := range want {
				levels = append(levels, uint8(digit-'0'))
			}
		}
		if !slices.Equal(got, levels) {
			t.Errorf("of many times %s the levels are others", s)
		}
		row := visual.Row(l, got, 0, 0, n)
		if len(row) != len(l) || len(visual.Turned(visual.Order(row))) != len(l) {
			t.Errorf("of many times %s came fewer", s)
		}
	}
	// What opens and does not close, or closes behind all.
	for _, s := range []string{"I", "F", "i", ">", "O", "IR", "iR", ">R", "<1", "Fa", "I~", "FR|"} {
		l := slices.Repeat(text(s), n/len(s))
		for _, l := range [][]rune{l, append(slices.Clone(l), slices.Repeat(text("p^"), n/2)...)} {
			got, _ := visual.Levels(l, api.WantRight)
			if len(got) != len(l) || got[0] != 1 || slices.Max(got) > 126 {
				t.Errorf("of many times %s: %d levels", s, len(got))
			}
		}
	}
}

func TestLongOrders(t *testing.T) {
	const n = 1 << 20
	for _, part := range [][]uint8{{126}, {255}, {125}, {0}, {0, 126}, {126, 125}, {0, 1}, {1, 2, 3, 4, 5, 6, 7, 8}, {126, 124, 122, 120}} {
		levels := slices.Repeat(part, n/len(part))
		order := visual.Order(levels)
		if seen := visual.Turned(order); len(seen) != len(levels) {
			t.Errorf("of many times %v came no order", part)
		}
	}
	slope := make([]uint8, n)
	for at := range slope {
		slope[at] = uint8(at >> 13)
	}
	if order := visual.Order(slope); len(visual.Turned(order)) != n {
		t.Error("of levels that rise came no order")
	}
}

// R2 and R3

// spoil writes into what was handed out, and into the room behind it.
func spoil[T any](list []T, with T) {
	for at := range list[:cap(list)] {
		list[:cap(list)][at] = with
	}
}

func TestNothingIsChangedOrShared(t *testing.T) {
	room := text("R(*a)* >[R]^|(1)** IRp aR")
	were := slices.Clone(room)
	l := room[:22:24]
	levelsRoom := []uint8{1, 200, 3, 130, 0, 1, 2, 3, 9, 9}
	levelsWere := slices.Clone(levelsRoom)
	given := levelsRoom[:8:9]
	orderRoom := []int{2, 0, 1, 7, 7}
	order := orderRoom[:3:4]
	for range 2 {
		levels, base := visual.Levels(l, api.WantAuto)
		want, b := levelsOf(l, api.WantAuto)
		row := visual.Row(l, given, 1, 0, 7)
		places, turned := visual.Order(given), visual.Turned(order)
		if base != b || !slices.Equal(levels, want) || !slices.Equal(row, rowOf(l, given, 1, 0, 7)) || !slices.Equal(places, orderOf(given)) || !slices.Equal(turned, []int{1, 2, 0}) {
			t.Errorf("%v, %v, %v, %v", levels, row, places, turned)
		}
		spoil(levels, 99)
		spoil(row, 99)
		spoil(places, 99)
		spoil(turned, 99)
		if !slices.Equal(room, were) || !slices.Equal(levelsRoom, levelsWere) || !slices.Equal(orderRoom, []int{2, 0, 1, 7, 7}) {
			t.Errorf("what was handed in is %x, %v, %v", room, levelsRoom, orderRoom)
		}
	}
}

func TestManyAskAtOneTime(t *testing.T) {
	l := text(strings.Repeat("R(*a)* >[R]^|(1)** IRp aR", 10))
	want, _ := levelsOf(l, api.WantAuto)
	row := rowOf(l, want, 1, 3, 200)
	order := orderOf(row)
	turned := turnedOf(order)
	var workers sync.WaitGroup
	for range 8 {
		workers.Go(func() {
			for range 50 {
				levels, _ := visual.Levels(l, api.WantAuto)
				if !slices.Equal(levels, want) || !slices.Equal(visual.Row(l, want, 1, 3, 200), row) || !slices.Equal(visual.Order(row), order) || !slices.Equal(visual.Turned(order), turned) {
					t.Error("others where many ask at one time")
				}
			}
		})
	}
	workers.Wait()
}
