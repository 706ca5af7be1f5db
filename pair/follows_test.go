package pair_test

import (
	"slices"
	"strings"
	"sync"
	"testing"

	"shuttle/class"
	"shuttle/pair"
)

// drawing is a row of numbers that is the same at each run.
type drawing uint32

func (d *drawing) below(n int) int {
	*d = *d*1664525 + 1013904223
	return int(*d>>16) % n
}

// mixed hands out n lists of up to 200 of the characters, in which one character often stands several times in a row.
func mixed(n int, of chars, f func(l chars)) {
	d := drawing(1)
	for range n {
		var l chars
		for left := d.below(200); left > 0; {
			c, times := of[d.below(len(of))], 1
			if d.below(4) == 0 {
				times = 1 + d.below(min(left, 8))
			}
			l = append(l, slices.Repeat(chars{c}, times)...)
			left -= times
		}
		f(l)
	}
}

// everyMixed hands out lists of all characters, such as are mostly brackets, and such in which many are open.
func everyMixed(f func(l chars)) {
	mixed(1000, every, f)
	mixed(1000, append(text("  *R"), brackets...), f)
	mixed(500, text("((((([)]aR *"), f)
	mixed(500, text("(((([]]]]))aR1 *"), f)
}

func TestMixedLists(t *testing.T) {
	everyMixed(func(l chars) {
		runes, k := l.parts()
		checkBrackets(t, runes, k)
		checkResolveAround(t, l)
	})
}

// P9.3

func TestPairsLieWithinOrApart(t *testing.T) {
	check := func(l chars) {
		runes, k := l.parts()
		pairs := pair.Brackets(runes, k)
		for n, p := range pairs {
			other, open, ok := class.Pair(runes[p[0]])
			if !ok || !open || other != runes[p[1]] || p[0] >= p[1] || k[p[0]] != ON || k[p[1]] != ON {
				t.Errorf("Brackets(%x, %v) has %v", runes, k, p)
			}
			for _, q := range pairs[n+1:] {
				within, apart := p[0] < q[0] && q[1] < p[1], p[1] < q[0]
				if !within && !apart {
					t.Errorf("Brackets(%x, %v) has %v and %v", runes, k, p, q)
				}
			}
		}
	}
	everyMixed(check)
	everyList(check)
	lists(nil, brackets, 6, check)
}

// P9.4

func TestWhatHasADirectionStays(t *testing.T) {
	check := func(l chars) {
		runes, k := l.parts()
		for level := range uint8(2) {
			for _, s := range sidesOfAll {
				got := pair.Resolve(runes, k, level, s[0], s[1])
				if len(got) != len(l) {
					t.Errorf("Resolve(%x, %v) has %d", runes, k, len(got))
				}
				for at, kind := range got {
					if isNeutral(kind) || kind != counts(kind) || !isNeutral(k[at]) && kind != counts(k[at]) || isNeutral(k[at]) && kind != L && kind != R {
						t.Errorf("Resolve(%x, %v, %d, %v) = %v", runes, k, level, s, got)
					}
				}
			}
		}
	}
	everyMixed(check)
	everyList(check)
}

func TestOneDirectionAlone(t *testing.T) {
	for level, of := range map[uint8]chars{0: append(text("()[] *a"), char{0x301, L}, char{'x', 77}), 1: append(text("()[] *R1"), char{0x663, AN}, char{0x627, AL})} {
		e := directionOfLevel(level)
		check := func(l chars) {
			runes, k := l.parts()
			for at, kind := range pair.Resolve(runes, k, level, e, e) {
				if isNeutral(k[at]) && kind != e {
					t.Errorf("Resolve(%x, %v, %d): %d has become %d", runes, k, level, at, kind)
				}
			}
		}
		mixed(500, of, check)
		lists(nil, of, 4, check)
	}
}

// P9.5

func TestBothOfAPairHaveOneDirection(t *testing.T) {
	check := func(l chars) {
		runes, k := l.parts()
		for _, p := range pair.Brackets(runes, k) {
			if between := k[p[0]+1 : p[1]]; !stands(between, L) && !stands(between, R) {
				continue
			}
			for level := range uint8(2) {
				for _, s := range sidesOfAll {
					if got := pair.Resolve(runes, k, level, s[0], s[1]); got[p[0]] != got[p[1]] {
						t.Errorf("Resolve(%x, %v, %d, %v) = %v, with a pair %v", runes, k, level, s, got, p)
					}
				}
			}
		}
	}
	everyMixed(check)
	lists(nil, few, 6, check)
}

// R1: lists that are long are gone through in steps as many as they have characters.

func TestLongLists(t *testing.T) {
	const n = 1 << 20
	for _, x := range []struct {
		part  string
		level uint8
		want  kinds
	}{
		{"(a)", 0, kinds{L, L, L}}, {"(R) ", 0, kinds{L, R, L, L}}, {"()", 0, kinds{L, L}}, {" ", 0, kinds{L}}, {"*", 0, kinds{L}}, {")", 0, kinds{L}}, {"(", 0, kinds{L}}, {"a(R)**R ", 0, kinds{L, L, R, L, L, L, R, L}}, {"R (R)", 1, kinds{R, R, R, R, R}}, {"a  R  ", 1, kinds{L, R, R, R, R, R}}, {"(((a[])))", 1, kinds{R, R, R, L, R, R, R, R, R}},
	} {
		times := n / len(x.part)
		runes, k := text(x.part).parts()
		runes, k = slices.Repeat(runes, times), slices.Repeat(k, times)
		want := slices.Repeat(x.want, times)
		side := directionOfLevel(x.level)
		if got := pair.Resolve(runes, k, x.level, side, side); !slices.Equal(got, want) {
			t.Errorf("of %d times %s came something else", times, x.part)
		}
	}
}

func TestLongPairs(t *testing.T) {
	const n = 1 << 20
	long := func(parts ...string) string { return strings.Join(parts, strings.Repeat(" ", n)) }
	for _, x := range []struct {
		s    string
		want int
	}{
		{strings.Repeat("(", 63) + strings.Repeat("]", n) + strings.Repeat(")", n), 63},
		{strings.Repeat("(", 62) + strings.Repeat("[]", n) + strings.Repeat(")", 62), n + 62},
		{long(strings.Repeat("(", 63), "R", strings.Repeat(")", 63)), 63},
		{strings.Repeat("("+strings.Repeat("[", 40)+")", n/40), n / 40},
	} {
		runes, k := text(x.s).parts()
		if got := pair.Brackets(runes, k); len(got) != x.want {
			t.Errorf("%d pairs, not %d", len(got), x.want)
		}
		got := pair.Resolve(runes, k, 0, R, R)
		if len(got) != len(runes) || got[0] != R {
			t.Errorf("of %d characters came %d", len(runes), len(got))
		}
	}
	// Marks behind each bracket of a row.
	runes, k := text("R" + strings.Repeat("(R)"+strings.Repeat("*", 1<<10), 1<<10)).parts()
	if got := pair.Resolve(runes, k, 0, R, L); slices.Contains(got, L) {
		t.Error("a mark has not gone along")
	}
}

// R2 and R3

func TestNothingIsChangedOrShared(t *testing.T) {
	roomOfRunes, room := text("R(*a)* [R](1)*** ").parts()
	runesWere, were := slices.Clone(roomOfRunes), slices.Clone(room)
	runes, k := roomOfRunes[:14:16], room[:14:16]
	answers := func() (pairs [][2]int, made kinds) {
		return pair.Brackets(runes, k), pair.Resolve(runes, k, 1, R, L)
	}
	pairs, made := answers()
	wantPairs, want := slices.Clone(pairs), slices.Clone(made)
	for n := range pairs[:cap(pairs)] {
		pairs[:cap(pairs)][n] = [2]int{99, 99}
	}
	for n := range made[:cap(made)] {
		made[:cap(made)][n] = 99
	}
	if !slices.Equal(roomOfRunes, runesWere) || !slices.Equal(room, were) {
		t.Errorf("what was handed in is %x, %v", roomOfRunes, room)
	}
	if pairs, made := answers(); !slices.Equal(pairs, wantPairs) || !slices.Equal(made, want) || len(pairs) != 3 || len(made) != 14 {
		t.Errorf("%v, %v, and once more %v, %v", wantPairs, want, pairs, made)
	}
}

func TestManyAskAtOneTime(t *testing.T) {
	runes, k := text(strings.Repeat("R(*a)* [R](1)*** ", 20)).parts()
	wantPairs, want := bracketsOf(runes, k), resolvedOf(runes, k, 1, R, L)
	var all sync.WaitGroup
	for range 8 {
		all.Go(func() {
			for range 50 {
				if pairs, made := pair.Brackets(runes, k), pair.Resolve(runes, k, 1, R, L); !slices.Equal(pairs, wantPairs) || !slices.Equal(made, want) {
					t.Errorf("of one text came %v, %v", pairs, made)
				}
			}
		})
	}
	all.Wait()
}
