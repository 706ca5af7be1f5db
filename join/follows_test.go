package join_test

import (
	"slices"
	"sync"
	"testing"

	"shuttle/api"
	"shuttle/class"
	"shuttle/join"
)

// drawing is a row of numbers that is the same at each run.
type drawing uint32

func (d *drawing) below(n int) int {
	*d = *d*1664525 + 1013904223
	return int(*d>>16) % n
}

// letters are those of the table, and what else its neighbourhood has.
func letters() []rune {
	var l []rune
	for r := rune(0x61F); r < 0x661; r++ {
		l = append(l, r)
	}
	return l
}

// mixed hands out n lists of up to 90 of the runes, in which one often stands several times in a row.
func mixed(n int, runes []rune, f func(l []rune)) {
	d := drawing(1)
	for range n {
		var l []rune
		for left := d.below(90); left > 0; {
			r, times := runes[d.below(len(runes))], 1
			if d.below(4) == 0 {
				times = 1 + d.below(min(left, 8))
			}
			l = append(l, slices.Repeat([]rune{r}, times)...)
			left -= times
		}
		f(l)
	}
}

// everyMixed hands out lists of all sorts of runes, and such as are mostly letters that join.
func everyMixed(f func(l []rune)) {
	mixed(3000, append(letters(), wrong...), f)
	mixed(3000, letters(), f)
	mixed(3000, few, f)
}

func TestMixedLists(t *testing.T) {
	everyMixed(func(l []rune) {
		checkForms(t, l)
		checkShaped(t, l)
	})
}

// P11.5

func plainOfEach(l []rune) []rune {
	var all []rune
	for _, r := range l {
		all = append(all, join.Plain(r)...)
	}
	return all
}

func isShape(r rune) bool { return r >= 0xFE80 && r <= 0xFEFC }

func TestPlainOfShaped(t *testing.T) {
	check := func(l []rune) {
		shaped := join.Shaped(l)
		if len(shaped) != len(l) {
			t.Errorf("Shaped(%x) = %x", l, shaped)
		}
		got := plainOfEach(shaped)
		if want := plainOfEach(l); !slices.Equal(got, want) {
			t.Errorf("of Shaped(%x) came %x, not %x", l, got, want)
		}
		if !slices.ContainsFunc(l, isShape) && !slices.Equal(got, l) {
			t.Errorf("of Shaped(%x) came %x", l, got)
		}
	}
	everyMixed(check)
	everyList(check)
	asked(func(r rune) { check([]rune{beh, r, beh}) })
}

// P11.6

// without is the list, and its forms, without the marks.
func without(l []rune, forms []int8) (rest []rune, of []int8) {
	for at, r := range l {
		if class.Join(r) != api.JoinThrough {
			rest, of = append(rest, r), append(of, forms[at])
		}
	}
	return rest, of
}

func TestMarksChangeNoOthersForm(t *testing.T) {
	check := func(l []rune) {
		forms := join.Forms(l)
		if len(forms) != len(l) {
			t.Fatalf("Forms(%x) = %v", l, forms)
		}
		for at, r := range l {
			if class.Join(r) == api.JoinThrough && forms[at] != alone {
				t.Errorf("Forms(%x) = %v: a mark is joined", l, forms)
			}
		}
		rest, of := without(l, forms)
		if got := join.Forms(rest); !slices.Equal(got, of) {
			t.Errorf("Forms(%x) = %v, but without marks it is %v", l, forms, got)
		}
	}
	everyMixed(check)
	everyList(check)
	asked(func(r rune) { check([]rune{beh, r, r, alef, r}) })
}

func TestBothSidesAgree(t *testing.T) {
	check := func(l []rune) {
		rest, of := without(l, join.Forms(l))
		for at := 1; at < len(rest); at++ {
			a, b := rest[at-1], rest[at]
			if !joinsAs(a, api.JoinRight, api.JoinBoth) || !joinsAs(b, api.JoinRight, api.JoinBoth) {
				continue
			}
			behind := of[at-1] == first || of[at-1] == middle
			ahead := of[at] == last || of[at] == middle
			if behind != ahead {
				t.Errorf("of %x, %x at %d is of the form %d, and %x ahead of it %d", l, b, at, of[at], a, of[at-1])
			}
		}
	}
	everyMixed(check)
	everyList(check)
}

// R1: lists that are long are gone through in steps as many as they have runes.

func TestLongLists(t *testing.T) {
	const n = 1 << 21
	for _, x := range []struct {
		part []rune
		want []int8
	}{
		{[]rune{fathan}, []int8{alone}}, {[]rune{beh}, []int8{middle}}, {[]rune{alef}, []int8{alone}}, {[]rune{beh, alef}, []int8{first, last}}, {[]rune{beh, fathan}, []int8{middle, alone}}, {[]rune{-1}, []int8{alone}},
	} {
		times := n / len(x.part)
		l, want := slices.Repeat(x.part, times), slices.Repeat(x.want, times)
		if x.want[0] == middle {
			want[0], want[n-len(x.part)] = first, last
		}
		got := join.Forms(l)
		if !slices.Equal(got, want) {
			t.Errorf("of %d times %x came other forms", times, x.part)
		}
		for at, r := range join.Shaped(l) {
			if r != join.Shape(l[at], got[at]) {
				t.Fatalf("of %d times %x came at %d the shape %x", times, x.part, at, r)
			}
		}
	}
	l := append(append([]rune{beh}, slices.Repeat([]rune{fathan}, n)...), alef)
	want := make([]int8, len(l))
	want[0], want[n+1] = first, last
	if got := join.Forms(l); !slices.Equal(got, want) {
		t.Errorf("of two letters with %d marks between them came other forms", n)
	}
}

// R2 and R3

func TestNothingIsChangedOrShared(t *testing.T) {
	room := []rune{beh, fathan, alef, -1, 0xFE8F, 0xD800, joiner, beh, beh, 'A', beh, 0x644}
	was := slices.Clone(room)
	l := room[:10:12]
	for range 2 {
		forms, shaped := join.Forms(l), join.Shaped(l)
		if !slices.Equal(forms, formsOf(l)) || !slices.Equal(shaped, shapedOf(l)) {
			t.Errorf("Forms(%x) = %v, Shaped %x", l, forms, shaped)
		}
		forms, shaped = forms[:cap(forms)], shaped[:cap(shaped)]
		for at := range forms {
			forms[at] = 99
		}
		for at := range shaped {
			shaped[at] = 99
		}
		if !slices.Equal(room, was) {
			t.Fatalf("what was handed in is %x", room)
		}
	}
	for range 2 {
		for r := rune(0xFE7F); r < 0xFEFE; r++ {
			got := join.Plain(r)
			if !slices.Equal(got, plainOf(r)) {
				t.Errorf("Plain(%x) = %x", r, got)
			}
			got = got[:cap(got)]
			for at := range got {
				got[at] = 99
			}
		}
	}
}

func TestManyAskAtOneTime(t *testing.T) {
	l := slices.Repeat([]rune{beh, fathan, alef, -1, 0xFEF5, tatweel, 0x644, 0x644, alef, 'A', joiner, 0x621}, 20)
	forms, shaped := formsOf(l), shapedOf(l)
	back := plainOfEach(shaped)
	var all sync.WaitGroup
	for range 8 {
		all.Go(func() {
			for range 50 {
				if !slices.Equal(join.Forms(l), forms) || !slices.Equal(join.Shaped(l), shaped) || !slices.Equal(plainOfEach(shaped), back) {
					t.Errorf("of %x came something else", l)
				}
			}
		})
	}
	all.Wait()
}
