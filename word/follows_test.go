package word_test

import (
	"slices"
	"strings"
	"sync"
	"testing"

	"shuttle/cluster"
	"shuttle/word"
)

// drawing is a row of numbers that is the same at each run.
type drawing uint32

func (d *drawing) below(n int) int {
	*d = *d*1664525 + 1013904223
	return int(*d>>16) % n
}

// mixed hands out n texts of up to 90 parts, in which one part often stands many times in a row, and signs stand between letters or digits.
func mixed(n int, f func(s string)) {
	more := append([]string{"a'b", "1.2", "a:\u4E16", "1,a", "\u1100", "\U0001F1E6", "\u200D", "\r\n"}, parts...)
	d := drawing(1)
	for range n {
		s := ""
		for left := d.below(90); left > 0; {
			part, times := more[d.below(len(more))], 1
			if d.below(4) == 0 {
				times = 1 + d.below(left)
			}
			s += strings.Repeat(part, times)
			left -= times
		}
		f(s)
	}
}

func told(s string) []string {
	var l []string
	for _, part := range word.All(s) {
		l = append(l, part)
	}
	return l
}

func TestMixedTexts(t *testing.T) {
	mixed(700, func(s string) {
		if !t.Failed() {
			check(t, s, segments(s))
		}
	})
}

// P12.5

func TestSegmentsAreTheText(t *testing.T) {
	mixed(2000, func(s string) {
		all := ""
		for at, part := range word.All(s) {
			if at != len(all) || part == "" || !cluster.Is(s, at) {
				t.Errorf("%+q: %+q at %d", s, part, at)
			}
			all += part
		}
		if all != s {
			t.Errorf("%+q is told as %+q", s, all)
		}
	})
}

func TestBordersCutNothing(t *testing.T) {
	mixed(500, func(s string) {
		all := told(s)
		for at := range len(s) + 1 {
			if word.Is(s, at) && !slices.Equal(append(told(s[:at]), told(s[at:])...), all) {
				t.Errorf("%+q cut at %d", s, at)
			}
		}
	})
}

// P12.6

func TestNextAndPrevGoThereAndBack(t *testing.T) {
	mixed(1000, func(s string) {
		places := beginnings(told(s))
		for i, b := range places {
			next, prev := word.Next(s, b), word.Prev(s, b)
			if i+1 < len(places) && (next != places[i+1] || word.Prev(s, next) != b) {
				t.Errorf("%+q: Next of %d is %d, Prev of it %d", s, b, next, word.Prev(s, next))
			}
			if i > 0 && (prev != places[i-1] || word.Next(s, prev) != b) {
				t.Errorf("%+q: Prev of %d is %d, Next of it %d", s, b, prev, word.Next(s, prev))
			}
		}
	})
}

func TestEveryWordHasWhatMakesIt(t *testing.T) {
	mixed(1000, func(s string) {
		// What stands alone is put ahead, so that Next goes to a word that s begins with, too.
		const ahead = "\n"
		at := len(ahead)
		for _, part := range told(s) {
			begins := word.Next(ahead+s, at-1) == at
			if has := slices.ContainsFunc(laid(part), isWord); begins != has {
				t.Errorf("%+q: %+q at %d: a word begins: %v", s, part, at, begins)
			}
			at += len(part)
		}
	})
}

// R9

func TestIteratorIsLeftAndGoneOverAgain(t *testing.T) {
	s := "don't  1,000.5\u4E16\u4E17\xFF\t\n'a."
	walk := word.All(s)
	all := told(s)
	for n := range len(all) {
		var l []string
		for _, part := range walk {
			l = append(l, part)
			if len(l) > n {
				break
			}
		}
		if !slices.Equal(l, all[:n+1]) {
			t.Errorf("left after %d: %+q", n, l)
		}
	}
	n := 0
	for at := range walk {
		for inner := range walk {
			if inner == at {
				n++
			}
		}
	}
	if n != len(all) {
		t.Errorf("within itself %d times the same", n)
	}
	for range word.All("") {
		t.Error("All of the empty text")
	}
}

// R1: a long text is gone through in steps as many as it has bytes, be it one word or many, and be no border of its clusters certain for long.

var long = []string{
	"a", "1", " ", "\u4E16", "-", "'", "\xFF", "\u0301", "\u1100", "\U0001F1E6", "\U0001F469\u200D",
	"a'", "1.", "a.", "1'", "a ", "\u1100'", "\u0301a:", "\u4E16'", "\n",
}

func TestLongTexts(t *testing.T) {
	for _, part := range long {
		s := strings.Repeat(part, 1<<18/len(part))
		at := 0
		for p, segment := range word.All(s) {
			if p != at {
				t.Fatalf("%+q: %d behind %d", part, p, at)
			}
			at += len(segment)
		}
		if at != len(s) {
			t.Errorf("%+q: All ends at %d", part, at)
		}
		for _, at := range []int{0, len(s) - 1} {
			from, to := word.At(s, at)
			if from > at || to < at || !word.Is(s, from) || !word.Is(s, to) {
				t.Errorf("%+q: At(%d) = %d, %d", part, at, from, to)
			}
			if next, prev := word.Next(s, at), word.Prev(s, at); next < at || prev > at {
				t.Errorf("%+q: at %d: %d, %d", part, at, next, prev)
			}
		}
	}
}

// A place is asked for in steps as many as its neighbourhood has bytes, not as many as the text has.
func TestEveryWordOfALongText(t *testing.T) {
	for _, part := range []string{"don't ", "1.5 - ", "\u4E16\u4E17, ", "a.'", "\u0301\n"} {
		s := strings.Repeat(part, 1<<18/len(part))
		var onward, backward []int
		for at := word.Next(s, 0); at < len(s); at = word.Next(s, at) {
			onward = append(onward, at)
		}
		for at := word.Prev(s, len(s)); at > 0; at = word.Prev(s, at) {
			backward = append(backward, at)
		}
		slices.Reverse(backward)
		if len(onward) < len(s)/len(part)-1 || !slices.Equal(onward, backward) {
			t.Errorf("%+q: %d and %d words", part, len(onward), len(backward))
		}
	}
}

// R2

func TestManyAskAtOneTime(t *testing.T) {
	s := strings.Repeat("don't 1,000.5\u4E16\u4E17\xFF\t\n'a.", 200)
	want := segments(s)
	places := beginnings(want)
	var wait sync.WaitGroup
	for range 4 {
		wait.Go(func() {
			if got := told(s); !slices.Equal(got, want) {
				t.Errorf("%d segments, not %d", len(got), len(want))
			}
			for at := range len(s) {
				if got := word.Prev(s, at); got != below(places, at) {
					t.Errorf("Prev(.., %d) = %d", at, got)
				}
			}
		})
	}
	wait.Wait()
}
