package weak_test

import (
	"math"
	"slices"
	"testing"

	"shuttle/api"
	"shuttle/weak"
)

type kinds = []int8

// Short names of the classes, as the chapter's examples have them.
const (
	L   = api.DirL
	R   = api.DirR
	AL  = api.DirAL
	EN  = api.DirEN
	ES  = api.DirES
	ET  = api.DirET
	AN  = api.DirAN
	CS  = api.DirCS
	NSM = api.DirNSM
	BN  = api.DirBN
	B   = api.DirB
	S   = api.DirS
	WS  = api.DirWS
	ON  = api.DirON
	LRE = api.DirLRE
	RLE = api.DirRLE
	LRO = api.DirLRO
	RLO = api.DirRLO
	PDF = api.DirPDF
	LRI = api.DirLRI
	RLI = api.DirRLI
	FSI = api.DirFSI
	PDI = api.DirPDI
)

// every is all the classes.
var every = kinds{L, R, AL, EN, ES, ET, AN, CS, NSM, BN, B, S, WS, ON, LRE, RLE, LRO, RLO, PDF, LRI, RLI, FSI, PDI}

// few are those of which the rules speak, one of each sort; and a number that is no class.
var few = kinds{L, R, AL, EN, ES, ET, AN, CS, NSM, PDI, 77}

// sides are R, L, and such as count as L.
var sides = kinds{R, L, AL, EN, -1, 127, -128}

// lists hands out l and all lists that have up to n of the classes behind it. What is handed out is not kept.
func lists(l, classes kinds, n int, f func(l kinds)) {
	f(l)
	if n == 0 {
		return
	}
	for _, kind := range classes {
		lists(append(l, kind), classes, n-1, f)
	}
}

// everyList hands out all lists that are short.
func everyList(f func(l kinds)) {
	lists(nil, append(kinds{23, -1}, every...), 3, f)
	lists(nil, few, 5, f)
}

func checkResolve(t *testing.T, l kinds, sos int8) {
	t.Helper()
	if got, want := weak.Resolve(l, sos), resolvedOf(l, sos); !slices.Equal(got, want) {
		t.Errorf("Resolve(%v, %d) = %v, not %v", l, sos, got, want)
	}
}

func checkStep(t *testing.T, n int, l kinds, sos int8) {
	t.Helper()
	if got, want := weak.Step(n, l, sos), stepOf(n, l, sos); !slices.Equal(got, want) {
		t.Errorf("Step(%d, %v, %d) = %v, not %v", n, l, sos, got, want)
	}
}

// P8.1

func TestResolveExamples(t *testing.T) {
	for _, x := range []struct {
		sos     int8
		l, want kinds
	}{
		{L, kinds{AL, NSM, NSM}, kinds{R, R, R}}, {R, kinds{NSM, EN}, kinds{R, EN}}, {L, kinds{NSM, EN}, kinds{L, L}}, {L, kinds{LRI, NSM, PDI, NSM}, kinds{LRI, ON, PDI, ON}},
		{R, kinds{AL, EN}, kinds{R, AN}}, {R, kinds{AL, ON, EN}, kinds{R, ON, AN}},
		{R, kinds{EN, CS, EN}, kinds{EN, EN, EN}}, {R, kinds{AN, CS, AN}, kinds{AN, AN, AN}}, {R, kinds{EN, CS, AN}, kinds{EN, ON, AN}}, {R, kinds{EN, ES, EN}, kinds{EN, EN, EN}}, {R, kinds{AN, ES, AN}, kinds{AN, ON, AN}},
		{R, kinds{EN, CS, CS, EN}, kinds{EN, ON, ON, EN}},
		{R, kinds{ET, ET, EN}, kinds{EN, EN, EN}}, {R, kinds{EN, ET, ET}, kinds{EN, EN, EN}}, {R, kinds{AN, ET, EN}, kinds{AN, EN, EN}}, {R, kinds{ET, AN}, kinds{ON, AN}},
		{L, kinds{EN}, kinds{L}}, {R, kinds{EN}, kinds{EN}}, {L, kinds{R, EN}, kinds{R, EN}}, {R, kinds{L, ON, EN}, kinds{L, ON, L}},
		{L, nil, nil}, {R, kinds{}, nil}, {AL, kinds{EN}, kinds{L}}, {-1, kinds{NSM}, kinds{L}}, {L, kinds{77, -1, NSM}, kinds{ON, ON, ON}},
		// A mark is what stands ahead of it, for each rule that comes behind.
		{R, kinds{EN, NSM, CS, NSM, EN}, kinds{EN, EN, ON, ON, EN}}, {R, kinds{ET, NSM, EN}, kinds{EN, EN, EN}}, {L, kinds{NSM, NSM, EN}, kinds{L, L, L}}, {R, kinds{L, LRI, NSM, EN}, kinds{L, LRI, ON, L}},
		// A digit behind an Arabic letter is not one beside which a terminator is a digit; a separator between two of them is.
		{R, kinds{AL, EN, ET}, kinds{R, AN, ON}}, {R, kinds{AL, EN, CS, EN}, kinds{R, AN, AN, AN}}, {R, kinds{AL, EN, ES, EN}, kinds{R, AN, ON, AN}}, {L, kinds{AL, R, EN, L, EN}, kinds{R, R, EN, L, L}},
		// What has become a digit by rule 4 or 5 becomes what digits do by rule 7.
		{L, kinds{EN, CS, EN, ET}, kinds{L, L, L, L}}, {R, kinds{L, ET, EN, R, ET, EN}, kinds{L, L, L, R, EN, EN}},
		// Rule 4 is over when rule 5 makes a digit.
		{R, kinds{EN, CS, ET, EN}, kinds{EN, ON, EN, EN}},
		{L, kinds{AL, ON, AN, EN}, kinds{R, ON, AN, AN}}, {R, kinds{AN, EN}, kinds{AN, EN}},
	} {
		if got := weak.Resolve(x.l, x.sos); !slices.Equal(got, x.want) {
			t.Errorf("Resolve(%v, %d) = %v", x.l, x.sos, got)
		}
	}
}

func TestResolveOfShortLists(t *testing.T) {
	everyList(func(l kinds) {
		checkResolve(t, l, R)
		checkResolve(t, l, L)
	})
	lists(nil, few, 3, func(l kinds) {
		for _, sos := range sides {
			checkResolve(t, l, sos)
		}
	})
}

func TestResolveOfEveryNumber(t *testing.T) {
	for number := range 256 {
		for sos := range 256 {
			checkResolve(t, kinds{int8(number), NSM, EN}, int8(sos))
			checkResolve(t, kinds{NSM, int8(number), EN}, int8(sos))
		}
	}
}

// P8.2

func TestStepExamples(t *testing.T) {
	for _, x := range []struct {
		n       int
		sos     int8
		l, want kinds
	}{
		{4, L, kinds{EN, CS, EN}, kinds{EN, EN, EN}}, {9, L, kinds{77, NSM}, kinds{ON, NSM}},
		{1, R, nil, nil}, {5, R, kinds{}, nil}, {0, R, nil, nil},
		{1, R, kinds{NSM, NSM}, kinds{R, R}}, {1, L, kinds{NSM}, kinds{L}}, {1, AL, kinds{NSM}, kinds{L}}, {1, L, kinds{AL, NSM, ET, NSM, NSM}, kinds{AL, AL, ET, ET, ET}}, {1, R, kinds{B, NSM, 77, NSM, BN, NSM}, kinds{B, B, ON, ON, BN, BN}},
		{1, R, kinds{FSI, NSM, NSM, RLI, NSM, LRI, PDI, NSM}, kinds{FSI, ON, ON, RLI, ON, LRI, PDI, ON}}, {1, R, kinds{LRE, NSM, PDF, NSM}, kinds{LRE, LRE, PDF, PDF}},
		{2, R, kinds{AL, EN, NSM, EN, R, EN, AL, L, EN}, kinds{AL, AN, NSM, AN, R, EN, AL, L, EN}}, {2, AL, kinds{EN}, kinds{EN}}, {2, R, kinds{EN, AL}, kinds{EN, AL}}, {2, R, kinds{AL, LRI, B, EN, PDI, EN}, kinds{AL, LRI, B, AN, PDI, AN}},
		{3, L, kinds{AL, R, AL}, kinds{R, R, R}},
		{4, L, kinds{EN, ES, EN, CS, EN, CS, AN}, kinds{EN, EN, EN, EN, EN, CS, AN}}, {4, L, kinds{AN, CS, AN, ES, AN}, kinds{AN, AN, AN, ES, AN}}, {4, L, kinds{EN, ES, CS, EN}, kinds{EN, ES, CS, EN}}, {4, L, kinds{CS, EN, CS}, kinds{CS, EN, CS}}, {4, L, kinds{AN, CS, EN, ES, AN}, kinds{AN, CS, EN, ES, AN}}, {4, L, kinds{ES}, kinds{ES}}, {4, L, kinds{R, CS, R, ES, R}, kinds{R, CS, R, ES, R}}, {4, L, kinds{EN, ET, EN}, kinds{EN, ET, EN}},
		{5, L, kinds{ET, ET, EN, ET, ET, AN, ET}, kinds{EN, EN, EN, EN, EN, AN, ET}}, {5, L, kinds{ET}, kinds{ET}}, {5, L, kinds{ET, ON, EN}, kinds{ET, ON, EN}}, {5, L, kinds{EN, ON, ET, ET}, kinds{EN, ON, ET, ET}}, {5, L, kinds{ET, CS, ET, EN}, kinds{ET, CS, EN, EN}}, {5, L, kinds{ET, BN, EN}, kinds{ET, BN, EN}},
		{6, L, kinds{ES, ET, CS, NSM, EN}, kinds{ON, ON, ON, NSM, EN}},
		{7, L, kinds{EN, AL, EN, R, EN, L, AL, EN}, kinds{L, AL, L, R, EN, L, AL, L}}, {7, R, kinds{EN, ON, EN, AN, L, B, EN}, kinds{EN, ON, EN, AN, L, B, L}}, {7, AL, kinds{EN}, kinds{L}},
		{8, R, kinds{NSM, AL, ES, -1, 23}, kinds{NSM, AL, ES, ON, ON}}, {0, R, kinds{NSM, AL, ES}, kinds{NSM, AL, ES}}, {-1, R, kinds{NSM, AL, 127}, kinds{NSM, AL, ON}}, {math.MaxInt, R, kinds{ES, -128}, kinds{ES, ON}}, {math.MinInt, L, kinds{EN, 77}, kinds{EN, ON}},
	} {
		if got := weak.Step(x.n, x.l, x.sos); !slices.Equal(got, x.want) {
			t.Errorf("Step(%d, %v, %d) = %v", x.n, x.l, x.sos, got)
		}
	}
}

func TestStepOfShortLists(t *testing.T) {
	for n := -1; n <= 9; n++ {
		lists(nil, append(kinds{23, -1}, every...), 3, func(l kinds) {
			checkStep(t, n, l, R)
			checkStep(t, n, l, L)
		})
		lists(nil, few, 4, func(l kinds) {
			for _, sos := range sides {
				checkStep(t, n, l, sos)
			}
		})
	}
}

func TestStepOfEveryNumber(t *testing.T) {
	for n := range 9 {
		for number := range 256 {
			for sos := range 256 {
				checkStep(t, n, kinds{NSM, int8(number), EN, NSM}, int8(sos))
			}
		}
	}
	for _, n := range []int{math.MinInt, math.MinInt + 1, math.MinInt + 4, -7, 1 << 32, 1<<32 + 4, 1<<62 + 1, math.MaxInt} {
		checkStep(t, n, every, R)
	}
}
