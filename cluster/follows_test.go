package cluster_test

import (
	"slices"
	"strings"
	"testing"
	"unicode/utf8"

	"shuttle/api"
	"shuttle/cluster"
)

// mixed makes n texts of up to 90 parts, in which one part often stands many times in a row, so that clusters become full.
func mixed(n int, f func(s string)) {
	state := uint32(1)
	draw := func(below int) int {
		state = state*1664525 + 1013904223
		return int(state>>16) % below
	}
	for range n {
		s := ""
		for left := draw(90); left > 0; {
			part, times := kinds[draw(len(kinds))], 1
			if draw(4) == 0 {
				times = 1 + draw(left)
			}
			s += strings.Repeat(part, times)
			left -= times
		}
		f(s)
	}
}

// P3.4

func TestNoClusterHasMoreThanMaxRunes(t *testing.T) {
	for _, x := range []struct{ x, more string }{
		{"a", "\u0301"}, {"\u0301", "\u0301"}, {"a", "\u200D"}, {"\u200C", "\u200C"}, {"\u1100", "\u1100"}, {"\u1161", "\u1161"}, {"\u11A8", "\u11A8"},
		{"\uAC00", "\u1161"}, {"\uAC01", "\u11A8"}, {"\U0001F1E6", "\u0301"}, {"\U0001F469", "\u0301"},
	} {
		for _, n := range []int{30, 31, 32, 33, 63, 64, 65, 97} {
			s := x.x + strings.Repeat(x.more, n)
			want := clusters(s)
			if got := utf8.RuneCountInString(want[0]); got != min(n+1, api.MaxRunes) {
				t.Fatalf("%+q: the model's first one has %d", s, got)
			}
			check(t, s, want)
			check(t, "\n"+s+"b", append(append([]string{"\n"}, want...), "b"))
		}
	}
}

func TestFullClustersBeginAnew(t *testing.T) {
	const picture, sign = "\U0001F469", "\U0001F1E6"
	marks := strings.Repeat("\u0301", 30)
	for _, want := range [][]string{
		{picture + marks + "\u200D", picture},
		{picture + marks[2:] + "\u200D" + picture, "\u200D", picture},
		{"\u1100" + strings.Repeat("\u1100", 31), "\u1100\u1161"},
		{sign + sign + marks, "\u0301", sign + sign},
		{"a" + marks + "\u0301", "\u200D", picture},
		{strings.Repeat(picture+"\u200D", 16), picture + "\u200D" + picture},
	} {
		check(t, strings.Join(want, ""), want)
	}
}

func TestMixedTexts(t *testing.T) {
	mixed(3000, func(s string) {
		if !t.Failed() {
			check(t, s, clusters(s))
		}
	})
}

func TestClustersAreTheText(t *testing.T) {
	mixed(1000, func(s string) {
		all := ""
		for at, c := range cluster.All(s) {
			if at != len(all) || c == "" || utf8.RuneCountInString(c) > api.MaxRunes {
				t.Errorf("%+q: %+q at %d", s, c, at)
			}
			if cluster.Next(c) != len(c) || cluster.Last(c) != len(c) || cluster.Count(c) != 1 {
				t.Errorf("%+q: %+q by itself is no cluster", s, c)
			}
			all += c
		}
		if all != s {
			t.Errorf("%+q is told as %+q", s, all)
		}
	})
}

// P3.5

func told(s string) []string {
	var l []string
	for _, c := range cluster.All(s) {
		l = append(l, c)
	}
	return l
}

func TestBordersCutNothing(t *testing.T) {
	mixed(500, func(s string) {
		all := told(s)
		for at := range len(s) + 1 {
			if cluster.Is(s, at) && !slices.Equal(append(told(s[:at]), told(s[at:])...), all) {
				t.Errorf("%+q cut at %d", s, at)
			}
		}
	})
}

// P3.6

func TestBadBytesPart(t *testing.T) {
	const bad = "\xFF"
	mixed(300, func(s string) {
		mixed(3, func(other string) {
			whole := other + bad + s + bad + other
			at := len(other) + len(bad)
			for p, c := range cluster.All(s) {
				if from, to := cluster.At(whole, at+p); from != at+p || to != at+p+len(c) {
					t.Errorf("%+q within %+q: %+q becomes %d to %d", s, whole, c, from, to)
				}
			}
			for _, p := range []int{at - 1, at + len(s)} {
				if from, to := cluster.At(whole, p); from != p || to != p+1 {
					t.Errorf("%+q: the bad byte at %d stands in %d to %d", whole, p, from, to)
				}
			}
		})
	})
}

func TestEveryBadByteIsACluster(t *testing.T) {
	for b := 0x80; b <= 0xFF; b++ {
		bad := string([]byte{byte(b)})
		for _, ahead := range kinds {
			for _, behind := range kinds {
				if ahead != "\x80" && behind != "\x80" {
					check(t, ahead+bad+behind, []string{ahead, bad, behind})
				}
			}
		}
	}
}

// R9

func TestIteratorsAreLeftAndGoneOverAgain(t *testing.T) {
	s := "a\u0301" + strings.Repeat("\U0001F1E6", 5) + strings.Repeat("\u0301", 40) + "\r\n\xE4"
	for _, walk := range []func(func(int, string) bool){cluster.All(s), cluster.Back(s)} {
		var all []string
		for _, c := range walk {
			all = append(all, c)
		}
		for n := range len(all) {
			var l []string
			for _, c := range walk {
				l = append(l, c)
				if len(l) > n {
					break
				}
			}
			if !slices.Equal(l, all[:n+1]) {
				t.Errorf("left after %d: %+q", n, l)
			}
		}
	}
	for range cluster.All("") {
		t.Error("All of the empty text")
	}
	for range cluster.Back("") {
		t.Error("Back of the empty text")
	}
}

func TestIteratorsWithinOneAnother(t *testing.T) {
	s := strings.Repeat("\U0001F1E6", 7) + "\u0301ab"
	walk := cluster.Back(s)
	n := 0
	for at := range walk {
		for inner := range walk {
			if inner == at {
				n++
			}
		}
	}
	if n != cluster.Count(s) {
		t.Error(n)
	}
}

// R1: texts in which no border is certain for long are gone through in steps as many as they have bytes.

func TestLongTexts(t *testing.T) {
	for _, part := range []string{"a", "\u0301", "\U0001F1E6", "\U0001F469\u200D", "\u1100", "\uAC01", "\x80"} {
		s := strings.Repeat(part, 1<<20/len(part))
		n, at := 0, len(s)
		for p, c := range cluster.Back(s) {
			if p+len(c) != at {
				t.Fatalf("%+q: %d to %d, ahead of %d", part, p, p+len(c), at)
			}
			n++
			at = p
		}
		if at != 0 || n != cluster.Count(s) {
			t.Errorf("%+q: Back tells %d, Count %d", part, n, cluster.Count(s))
		}
		if from, to := cluster.At(s, len(s)-1); from != len(s)-cluster.Last(s) || to != len(s) {
			t.Errorf("%+q: the last one is %d to %d", part, from, to)
		}
	}
}

// R2

func TestManyAskAtOneTime(t *testing.T) {
	s := strings.Repeat("a\u0301\U0001F469\u200D\U0001F4BB\uAC00\u11A8\xFF", 200)
	want := clusters(s)
	done := make(chan []string)
	for range 4 {
		go func() { done <- told(s) }()
	}
	for range 4 {
		if got := <-done; !slices.Equal(got, want) {
			t.Errorf("%d clusters, not %d", len(got), len(want))
		}
	}
}
