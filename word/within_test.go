package word

import (
	"slices"
	"strings"
	"testing"

	"shuttle/api"
	"shuttle/cluster"
)

// The numbers that stand here once more are those of package api.
func TestNumbersOfTheApi(t *testing.T) {
	if kindMark != api.KMark || kindLetter != api.KLetter || kindDigit != api.KDigit || kindSpace != api.KSpace {
		t.Error(kindMark, kindLetter, kindDigit, kindSpace)
	}
	if breakMust != api.BreakMust || breakIdeo != api.BreakIdeo {
		t.Error(breakMust, breakIdeo)
	}
}

// Backward goes over what onward does, turned round; where it begins within a segment, that one is cut.
func TestBackwardIsOnwardTurnedRound(t *testing.T) {
	const s = "- \u0301 don't  1,000.5\u4E16\u4E17\xFF\t\n'a.\r\nb:c"
	for start := range len(s) + 1 {
		if !cluster.Is(s, start) {
			continue
		}
		var want, got []string
		for at, part := range onward(s, 0) {
			if at < start {
				want = append(want, part[:min(len(part), start-at)])
			}
		}
		end := start
		for at, part := range backward(s, start) {
			if at+len(part) != end {
				t.Errorf("from %d: %+q at %d, ahead of %d", start, part, at, end)
			}
			end = at
			got = append(got, part)
		}
		slices.Reverse(got)
		if !slices.Equal(got, want) || strings.Join(got, "") != s[:start] {
			t.Errorf("from %d: %+q, not %+q", start, got, want)
		}
	}
}
