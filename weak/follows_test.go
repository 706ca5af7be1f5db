package weak_test

import (
	"slices"
	"sync"
	"testing"

	"shuttle/weak"
)

// drawing is a row of numbers that is the same at each run.
type drawing uint32

func (d *drawing) below(n int) int {
	*d = *d*1664525 + 1013904223
	return int(*d>>16) % n
}

// mixed hands out n lists of up to 90 of the classes, in which one class often stands several times in a row.
func mixed(n int, classes kinds, f func(l kinds)) {
	d := drawing(1)
	for range n {
		var l kinds
		for left := d.below(90); left > 0; {
			kind, times := classes[d.below(len(classes))], 1
			if d.below(4) == 0 {
				times = 1 + d.below(min(left, 8))
			}
			l = append(l, slices.Repeat(kinds{kind}, times)...)
			left -= times
		}
		f(l)
	}
}

// everyMixed hands out lists of all classes, and such as are mostly digits and signs.
func everyMixed(f func(l kinds)) {
	mixed(3000, append(kinds{77, -1}, every...), f)
	mixed(3000, kinds{EN, EN, EN, AN, AN, ET, ET, CS, CS, ES, NSM, AL, R, L, PDI}, f)
}

func TestMixedLists(t *testing.T) {
	everyMixed(func(l kinds) {
		for _, sos := range sides {
			checkResolve(t, l, sos)
		}
		for n := range 9 {
			checkStep(t, n, l, R)
			checkStep(t, n, l, L)
		}
	})
}

// P8.3

func TestResolveIsAllSteps(t *testing.T) {
	everyMixed(func(l kinds) {
		for _, sos := range sides {
			steps := l
			for n := 1; n <= 7; n++ {
				steps = weak.Step(n, steps, sos)
			}
			if got := weak.Resolve(l, sos); !slices.Equal(got, steps) {
				t.Errorf("Resolve(%v, %d) = %v, but by steps it is %v", l, sos, got, steps)
			}
		}
	})
}

func TestResolveLeavesNothingToResolve(t *testing.T) {
	check := func(l kinds) {
		for _, sos := range sides {
			got := weak.Resolve(l, sos)
			if slices.ContainsFunc(got, func(kind int8) bool { return in(kind, NSM, AL, ES, ET, CS) || counts(kind) != kind }) || len(got) != len(l) {
				t.Errorf("Resolve(%v, %d) = %v", l, sos, got)
			}
			if again := weak.Resolve(got, sos); !slices.Equal(again, got) {
				t.Errorf("Resolve(%v, %d) = %v, and of that it is %v", l, sos, got, again)
			}
		}
	}
	everyMixed(check)
	lists(nil, few, 4, check)
}

// P8.4

func TestListsArePartedAheadOfStrongOnes(t *testing.T) {
	check := func(l kinds) {
		for _, sos := range sides {
			whole := weak.Resolve(l, sos)
			for at, kind := range l {
				if !in(kind, L, R, AL) {
					continue
				}
				for _, other := range sides {
					if parts := append(weak.Resolve(l[:at], sos), weak.Resolve(l[at:], other)...); !slices.Equal(whole, parts) {
						t.Errorf("Resolve(%v, %d) = %v, but parted at %d, with %d, it is %v", l, sos, whole, at, other, parts)
					}
				}
			}
		}
	}
	everyMixed(check)
	lists(nil, few, 4, check)
}

// P8.5

func TestOthersStayWhatTheyAre(t *testing.T) {
	stay := kinds{B, S, WS, ON, BN, L, R, LRE, RLE, LRO, RLO, PDF, LRI, RLI, FSI, PDI}
	check := func(l kinds) {
		for _, sos := range sides[:2] {
			made := []kinds{weak.Resolve(l, sos)}
			for n := range 9 {
				made = append(made, weak.Step(n, l, sos))
			}
			for at, kind := range l {
				if !in(kind, stay...) {
					continue
				}
				for _, m := range made {
					if m[at] != kind {
						t.Errorf("of %v with %d came %v", l, sos, m)
					}
				}
			}
		}
	}
	everyMixed(check)
	lists(nil, every, 3, check)
}

// R1: lists that are long are gone through in steps as many as they have classes.

func TestLongLists(t *testing.T) {
	const n = 1 << 21
	for _, x := range []struct{ part, want kinds }{
		{kinds{NSM}, kinds{R}}, {kinds{EN}, kinds{EN}}, {kinds{ET}, kinds{ON}}, {kinds{CS}, kinds{ON}}, {kinds{EN, CS}, kinds{EN, EN}}, {kinds{AN, EN}, kinds{AN, EN}}, {kinds{ET, EN}, kinds{EN, EN}}, {kinds{77, NSM}, kinds{ON, ON}}, {kinds{L, EN}, kinds{L, L}},
	} {
		times := n / len(x.part)
		l, want := append(slices.Repeat(x.part, times), R), append(slices.Repeat(x.want, times), R)
		// A separator at the end stands between no two digits.
		if x.part[len(x.part)-1] == CS {
			want[n-1] = ON
		}
		if got := weak.Resolve(l, R); !slices.Equal(got, want) {
			t.Errorf("of %d times %v came something else", times, x.part)
		}
		for n := range 9 {
			if got := weak.Step(n, l, R); len(got) != len(l) {
				t.Errorf("Step(%d) of %d classes has %d", n, len(l), len(got))
			}
		}
	}
	l := append(slices.Repeat(kinds{ET}, n), EN)
	if got := weak.Resolve(l, L); !slices.Equal(got, slices.Repeat(kinds{L}, n+1)) {
		t.Errorf("of %d terminators ahead of a digit came something else", n)
	}
}

// R2 and R3

func TestNothingIsChangedOrShared(t *testing.T) {
	room := kinds{NSM, AL, EN, 77, NSM, ET, EN, CS, EN, ET, 77, NSM}
	was := slices.Clone(room)
	l := room[:10:12]
	for n := range 10 {
		answer := func() kinds {
			if n == 9 {
				return weak.Resolve(l, R)
			}
			return weak.Step(n, l, R)
		}
		first := answer()
		want := slices.Clone(first)
		for i := range first[:cap(first)] {
			first[:cap(first)][i] = 99
		}
		if !slices.Equal(room, was) {
			t.Errorf("%d: what was handed in is %v", n, room)
		}
		if got := answer(); !slices.Equal(got, want) || len(got) != len(l) {
			t.Errorf("%d: %v, and once more %v", n, want, got)
		}
	}
}

func TestManyAskAtOneTime(t *testing.T) {
	l := slices.Repeat(kinds{NSM, AL, EN, CS, EN, ET, R, ET, EN, PDI, NSM, L, EN}, 20)
	want := resolvedOf(l, R)
	var all sync.WaitGroup
	for range 8 {
		all.Go(func() {
			for range 50 {
				if got := weak.Resolve(l, R); !slices.Equal(got, want) {
					t.Errorf("Resolve(%v) = %v", l, got)
				}
			}
		})
	}
	all.Wait()
}
