package class_test

import (
	"math"
	"testing"

	"shuttle/api"
	"shuttle/class"
)

// wrong is numbers that are no characters; some are one, if a part of their bits is taken for the whole.
var wrong = []rune{-1, -2, -0x41, math.MinInt32, math.MinInt32 + 0x41, noneFrom, noneFrom + 1, 0xDBFF, 0xDC00, noneUntil - 1, numbers, numbers + 0x41, 0x200041, 0x1000041, math.MaxInt32}

// check holds what is asked of every number against the table.
func check(t *testing.T, name string, table []line, ask func(r rune) int) {
	t.Helper()
	classes := spread(table)
	for i, want := range classes {
		r := rune(i)
		if !isCharacter(r) {
			want = classes[api.Bad]
		}
		if got := ask(r); got != want {
			t.Fatalf("%s(%x) = %d, not %d", name, r, got, want)
		}
	}
	for _, r := range wrong {
		if got := ask(r); got != classes[api.Bad] {
			t.Errorf("%s(%x) = %d, not %d", name, r, got, classes[api.Bad])
		}
	}
}

// P2.1

func TestKind(t *testing.T) {
	check(t, "Kind", kindsTable(), func(r rune) int { return int(class.Kind(r)) })
	for r, want := range map[rune]int8{0x41: api.KLetter, 0x5D0: api.KLetter, 0: api.KControl, 0x301: api.KMark, -1: api.KSymbol, 0xD800: api.KSymbol, 0x110000: api.KSymbol, 0x25CB: api.KSymbol, 0x25CC: api.KPunct, 0x378: api.KLetter, 0xE000: api.KNone, 0x10FFFF: api.KNone} {
		if got := class.Kind(r); got != want {
			t.Errorf("Kind(%x) = %d, not %d", r, got, want)
		}
	}
}

// P2.2

func TestDir(t *testing.T) {
	check(t, "Dir", dirsTable(), func(r rune) int { return int(class.Dir(r)) })
	for r, want := range map[rune]int8{0x41: api.DirL, 0x5D0: api.DirR, 0x627: api.DirAL, 0x33: api.DirEN, 0x663: api.DirAN, 0x2E: api.DirCS, 0x28: api.DirON, 0x301: api.DirNSM, 0x2067: api.DirRLI, 0x200F: api.DirR, 0x61C: api.DirAL, 0x6DD: api.DirAN, 0x590: api.DirR, 0xDFFF: api.DirON, 0x10800: api.DirR, 0x11000: api.DirL} {
		if got := class.Dir(r); got != want {
			t.Errorf("Dir(%x) = %d, not %d", r, got, want)
		}
	}
}

// P2.3

func TestWide(t *testing.T) {
	for _, wide := range []bool{false, true} {
		unsure := 1
		if wide {
			unsure = 2
		}
		table := widthsTable()
		for i, l := range table {
			if l.class == 3 {
				table[i].class = unsure
			}
		}
		check(t, "Wide", table, func(r rune) int { return class.Wide(r, wide) })
	}
	for _, x := range []struct {
		r    rune
		wide bool
		want int
	}{
		{0x41, true, 1}, {0x4E00, false, 2}, {0x3B1, false, 1}, {0x3B1, true, 2}, {0x301, true, 0}, {0xE000, true, 2}, {0xE000, false, 1}, {-1, true, 1}, {0x1160, true, 0}, {0x110000, false, 1},
	} {
		if got := class.Wide(x.r, x.wide); got != x.want {
			t.Errorf("Wide(%x, %v) = %d, not %d", x.r, x.wide, got, x.want)
		}
	}
}

// P2.4

func TestMark(t *testing.T) {
	check(t, "Mark", marksTable(), func(r rune) int { return int(class.Mark(r)) })
	for r, want := range map[rune]uint8{0x301: 230, 0x323: 220, 0x5BC: 21, 0x64B: 27, 0x345: 240, 0x41: 0, 0x34F: 0, -1: 0, 0x110301: 0} {
		if got := class.Mark(r); got != want {
			t.Errorf("Mark(%x) = %d, not %d", r, got, want)
		}
	}
}

// P2.5

func TestJoin(t *testing.T) {
	check(t, "Join", joinsTable(), func(r rune) int { return int(class.Join(r)) })
	for r, want := range map[rune]int8{0x628: api.JoinBoth, 0x627: api.JoinRight, 0x640: api.JoinCause, 0x64B: api.JoinThrough, 0x621: api.JoinNone, 0x200C: api.JoinNone, 0x200D: api.JoinCause, -0x628: api.JoinNone} {
		if got := class.Join(r); got != want {
			t.Errorf("Join(%x) = %d, not %d", r, got, want)
		}
	}
}

// P2.6

func TestBreak(t *testing.T) {
	check(t, "Break", breaksTable(), func(r rune) int { return int(class.Break(r)) })
	for r, want := range map[rune]int8{0x20: api.BreakSpace, 0xA: api.BreakMust, 0x28: api.BreakOpen, 0x4E00: api.BreakIdeo, 7: api.BreakMark, 9: api.BreakSpace, 0x200B: api.BreakZero, 0x200D: api.BreakJoin, 0x2060: api.BreakGlue, 0xAD: api.BreakHyphen, 0x3099: api.BreakMark, 0xFF0C: api.BreakClose, 0xFF10: api.BreakDigit, 0xDC00: api.BreakAlpha} {
		if got := class.Break(r); got != want {
			t.Errorf("Break(%x) = %d, not %d", r, got, want)
		}
	}
}

// P2.7: the brackets, and the mirrors that are none, as the chapter lists them.

var (
	brackets = [][2]rune{{0x28, 0x29}, {0x5B, 0x5D}, {0x7B, 0x7D}, {0x3008, 0x3009}, {0x300A, 0x300B}, {0x300C, 0x300D}, {0x300E, 0x300F}, {0x3010, 0x3011}, {0x3014, 0x3015}, {0x3016, 0x3017}, {0x3018, 0x3019}, {0x301A, 0x301B}, {0xFF08, 0xFF09}, {0xFF3B, 0xFF3D}, {0xFF5B, 0xFF5D}}
	others   = [][2]rune{{0x3C, 0x3E}, {0xAB, 0xBB}, {0x2039, 0x203A}, {0x2264, 0x2265}, {0xFF1C, 0xFF1E}}
)

// asked hands out every number from 0 to 10FFFF, and such as are no characters.
func asked(f func(r rune)) {
	for r := rune(-0x100); r < numbers+0x100; r++ {
		f(r)
	}
	for _, r := range wrong {
		f(r)
	}
}

func TestMirror(t *testing.T) {
	want := map[rune]rune{}
	for _, l := range [][][2]rune{brackets, others} {
		for _, p := range l {
			want[p[0]], want[p[1]] = p[1], p[0]
		}
	}
	asked(func(r rune) {
		m, ok := want[r]
		if !ok {
			m = r
		}
		if got := class.Mirror(r); got != m {
			t.Errorf("Mirror(%x) = %x, not %x", r, got, m)
		}
	})
}

func TestPair(t *testing.T) {
	type pair struct {
		other    rune
		open, ok bool
	}
	want := map[rune]pair{}
	for _, p := range brackets {
		want[p[0]], want[p[1]] = pair{p[1], true, true}, pair{p[0], false, true}
	}
	asked(func(r rune) {
		other, open, ok := class.Pair(r)
		if got := (pair{other, open, ok}); got != want[r] {
			t.Errorf("Pair(%x) = %v, not %v", r, got, want[r])
		}
	})
}

// P2.9

func TestMirrorOfMirror(t *testing.T) {
	asked(func(r rune) {
		if got := class.Mirror(class.Mirror(r)); got != r {
			t.Errorf("Mirror(Mirror(%x)) = %x", r, got)
		}
		if other, open, ok := class.Pair(r); ok {
			back, opens, too := class.Pair(other)
			if class.Mirror(r) != other || back != r || opens == open || !too {
				t.Errorf("the bracket %x: the other one %x, its other one %x", r, other, back)
			}
		}
	})
}

// P2.10

func TestTablesAgree(t *testing.T) {
	asked(func(r rune) {
		kind := class.Kind(r)
		for _, wide := range []bool{false, true} {
			if n := class.Wide(r, wide); n != 0 && (kind == api.KMark || kind == api.KControl || kind == api.KFormat) {
				t.Errorf("%x, of the kind %d, takes %d columns", r, kind, n)
			}
		}
		if isMark := kind == api.KMark; isMark != (class.Dir(r) == api.DirNSM) || isMark != (class.Join(r) == api.JoinThrough) {
			t.Errorf("%x: kind %d, direction %d, joins as %d", r, kind, class.Dir(r), class.Join(r))
		}
		if kind != api.KMark && class.Mark(r) != 0 {
			t.Errorf("%x is no mark and has the class %d of marks", r, class.Mark(r))
		}
	})
}

// R2

func TestManyAskAtOneTime(t *testing.T) {
	done := make(chan int)
	for range 4 {
		go func() {
			sum := 0
			for r := rune(0); r < 0x3100; r++ {
				sum += int(class.Kind(r)) + int(class.Dir(r)) + class.Wide(r, true) + int(class.Mark(r)) + int(class.Join(r)) + int(class.Break(r)) + int(class.Mirror(r))
			}
			done <- sum
		}()
	}
	first := <-done
	for range 3 {
		if sum := <-done; sum != first {
			t.Error(first, sum)
		}
	}
}
