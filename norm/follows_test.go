package norm_test

import (
	"slices"
	"strings"
	"testing"

	"shuttle/class"
	"shuttle/norm"
	"shuttle/scan"
)

// P4.7

func TestAtOnce(t *testing.T) {
	all(func(s string) {
		apart, together := norm.Apart(s), norm.Together(s)
		if got := norm.Apart(apart); got != apart {
			t.Errorf("Apart of Apart(%+q) = %+q, not %+q", s, got, apart)
		}
		if got := norm.Together(together); got != together {
			t.Errorf("Together of Together(%+q) = %+q, not %+q", s, got, together)
		}
		if got := norm.Apart(together); got != apart {
			t.Errorf("Apart of Together(%+q) = %+q, not %+q", s, got, apart)
		}
		if got := norm.Together(apart); got != together {
			t.Errorf("Together of Apart(%+q) = %+q, not %+q", s, got, together)
		}
	})
}

// Of a text and itself, from both sides, and of what goes on from one to the next: so it is just if texts are the same where they are the same taken apart.
func TestSameIsOneOfAKind(t *testing.T) {
	var l []string
	texts("", []string{"a", "\u00E2", "\u1EA5", "\u0301", "\u0302", "\u0323", "\xFF"}, 3, func(s string) { l = append(l, s) })
	forms := make([]string, len(l))
	for i, s := range l {
		forms[i] = textOf(apartOf(s))
	}
	for i, a := range l {
		for j, b := range l {
			if got := norm.Same(a, b); got != (forms[i] == forms[j]) {
				t.Errorf("Same(%+q, %+q) = %v", a, b, got)
			}
		}
	}
}

// Two texts are the same just if what they are put together is (P3).
func TestSameAsTogether(t *testing.T) {
	same := map[string]string{}
	all(func(s string) {
		apart, together := norm.Apart(s), norm.Together(s)
		if before, ok := same[apart]; ok && before != together {
			t.Errorf("%+q has the form %+q put together, another text of the same form apart %+q", s, together, before)
		}
		same[apart] = together
	})
	from := map[string]string{}
	for apart, together := range same {
		if other, ok := from[together]; ok {
			t.Errorf("%+q and %+q are both %+q put together", apart, other, together)
		}
		from[together] = apart
	}
}

// P4.8

func TestPartedAheadOfAStarter(t *testing.T) {
	all(func(s string) {
		for at, r := range scan.All(s) {
			if _, size := scan.Next(s[at:]); size > 1 && class.Mark(r) != 0 {
				continue
			}
			if got, want := norm.Apart(s[:at])+norm.Apart(s[at:]), norm.Apart(s); got != want {
				t.Errorf("Apart(%+q), parted at %d: %+q, not %+q", s, at, got, want)
			}
		}
	})
}

// badBytes is the bad bytes of s, one behind the other.
func badBytes(s string) string {
	var l []byte
	for _, at := range scan.Bad(s) {
		l = append(l, s[at])
	}
	return string(l)
}

func TestBadBytesStay(t *testing.T) {
	check := func(s string) {
		if want, apart, together := badBytes(s), badBytes(norm.Apart(s)), badBytes(norm.Together(s)); apart != want || together != want {
			t.Errorf("the bad bytes of %+q: %x, apart %x, together %x", s, want, apart, together)
		}
	}
	all(check)
	texts("", []string{"e", "\u0301", "\xCC", "\x81", "\xE1", "\xBA", "\xA5", "\u212B"}, 5, check)
}

func TestOrderAtOnce(t *testing.T) {
	lists(nil, []rune{'a', 0x301, 0x302, 0x327, 0x334, -5, numbers}, 5, func(l []rune) {
		ordered := norm.Order(l)
		if got := norm.Order(ordered); !slices.Equal(got, ordered) {
			t.Errorf("Order of Order(%x) = %x, not %x", l, got, ordered)
		}
		if got, want := slices.Sorted(slices.Values(ordered)), slices.Sorted(slices.Values(l)); !slices.Equal(got, want) {
			t.Errorf("Order(%x) = %x has not its numbers", l, ordered)
		}
	})
}

// P4.9

func TestPairAndSplit(t *testing.T) {
	for c, two := range modelPairs() {
		a, b := two[0], two[1]
		if got := norm.Pair(a, b); got != c {
			t.Errorf("Pair(%x, %x) = %x, not %x", a, b, got, c)
		}
		if got := norm.Split(b); !slices.Equal(got, []rune{b}) {
			t.Errorf("Split(%x) = %x", b, got)
		}
		if got, want := norm.Split(c), append(norm.Split(a), b); !slices.Equal(got, want) {
			t.Errorf("Split(%x) = %x, not %x", c, got, want)
		}
	}
}

// R3

func TestListsAreNewMemory(t *testing.T) {
	room := []rune{0x301, 0x327, 'a', 0x302, 0x328}
	l := room[:2]
	got := norm.Order(l)
	for i := range got[:cap(got)] {
		got[:cap(got)][i] = -1
	}
	if !slices.Equal(room, []rune{0x301, 0x327, 'a', 0x302, 0x328}) {
		t.Errorf("what was handed in is changed: %x", room)
	}
	first := norm.Split(0x1EA5)
	again := norm.Split(0x1EA5)
	for i := range first[:cap(first)] {
		first[:cap(first)][i] = -1
	}
	if want := []rune{'a', 0x302, 0x301}; !slices.Equal(again, want) || !slices.Equal(norm.Split(0x1EA5), want) {
		t.Error("what is written to an answer is seen in another one")
	}
}

// R2

func TestManyAskAtOneTime(t *testing.T) {
	s := strings.Join(kinds, "")
	want := norm.Together(s) + norm.Apart(s)
	done := make(chan string)
	for range 4 {
		go func() {
			for range 100 {
				norm.Pair('e', 0x301)
			}
			done <- norm.Together(s) + norm.Apart(s)
		}()
	}
	for range 4 {
		if got := <-done; got != want {
			t.Errorf("%+q, not %+q", got, want)
		}
	}
}
