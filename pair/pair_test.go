package pair_test

import (
	"fmt"
	"slices"
	"strings"
	"testing"

	"shuttle/api"
	"shuttle/class"
	"shuttle/pair"
)

// Short names of the classes, as the chapter's examples have them.
const (
	L   = api.DirL
	R   = api.DirR
	AL  = api.DirAL
	EN  = api.DirEN
	AN  = api.DirAN
	NSM = api.DirNSM
	WS  = api.DirWS
	ON  = api.DirON
)

type kinds = []int8

// char is a character with its kind.
type char struct {
	r    rune
	kind int8
}

// chars are characters with their kinds.
type chars []char

// parts are the two lists of the characters.
func (l chars) parts() (runes []rune, k kinds) {
	for _, c := range l {
		runes, k = append(runes, c.r), append(k, c.kind)
	}
	return runes, k
}

// text is the characters of s, with their kinds as class.Dir tells. For R stands 5D0, for * the mark 301, as layer 8 leaves it: neutral.
func text(s string) (l chars) {
	for _, r := range s {
		switch r {
		case 'R':
			l = append(l, char{0x5D0, R})
		case '*':
			l = append(l, char{0x301, ON})
		default:
			l = append(l, char{r, class.Dir(r)})
		}
	}
	return l
}

// every is a character for each thing that the chapter tells apart.
var every = append(text("()[]aR1 *"), char{0x663, AN}, char{0x301, R}, char{0x301, NSM}, char{'(', L}, char{')', WS}, char{'a', 77})

// few are such that much follows from how they stand.
var few = text("()aR*")

// brackets are such of which only what is open matters.
var brackets = append(text("()[]"), char{0x300A, ON}, char{0x300B, ON})

// sidesOfAll are all pairs of sos and eos.
var sidesOfAll = [][2]int8{{L, L}, {L, R}, {R, L}, {R, R}}

// lists hands out l and all lists that have up to n of the characters behind it. What is handed out is not kept.
func lists(l, of chars, n int, f func(l chars)) {
	f(l)
	if n == 0 {
		return
	}
	for _, c := range of {
		lists(append(l, c), of, n-1, f)
	}
}

// everyList hands out all lists that are short.
func everyList(f func(l chars)) {
	lists(nil, every, 4, f)
	lists(nil, few, 6, f)
}

func checkBrackets(t *testing.T, runes []rune, k kinds) {
	t.Helper()
	if got, want := pair.Brackets(runes, k), bracketsOf(runes, k); !slices.Equal(got, want) {
		t.Errorf("Brackets(%x, %v) = %v, not %v", runes, k, got, want)
	}
}

func checkResolve(t *testing.T, runes []rune, k kinds, level uint8, sos, eos int8) {
	t.Helper()
	if got, want := pair.Resolve(runes, k, level, sos, eos), resolvedOf(runes, k, level, sos, eos); !slices.Equal(got, want) {
		t.Errorf("Resolve(%x, %v, %d, %d, %d) = %v, not %v", runes, k, level, sos, eos, got, want)
	}
}

// checkResolveAround holds Resolve against the model for both directions of the level and of both sides.
func checkResolveAround(t *testing.T, l chars) {
	t.Helper()
	runes, k := l.parts()
	for level := range uint8(2) {
		for _, s := range sidesOfAll {
			checkResolve(t, runes, k, level, s[0], s[1])
		}
	}
}

// P9.1

func TestBracketsExamples(t *testing.T) {
	repeat := strings.Repeat
	for s, want := range map[string]string{
		"a(b)c": "[[1 3]]", "(a]b)": "[[0 4]]", "(a[b)c]": "[[0 4]]", "[()[]]": "[[0 5] [1 2] [3 4]]", "a)b(": "[]", "": "[]",
		repeat("(", 64) + repeat(")", 64): "[]",
		// What is no bracket, though it has a mirror.
		"<a>": "[]", "\u00ABa\u00BB": "[]", "\u2264\u2265": "[]",
		"()": "[[0 1]]", "(": "[]", ")": "[]", "(()": "[[1 2]]", "())": "[[0 1]]", "([)]": "[[0 2]]", "([{)}]": "[[0 3]]", "([)(])": "[[0 2] [3 5]]", ")()(": "[[1 2]]", "(((]": "[]", "[[(]]": "[[0 4] [1 3]]",
		"\u3008\u300A\u3009": "[[0 2]]", "(\uFF09": "[]",
		// What was found ahead of one bracket too many is a pair.
		"[](" + repeat("(", 63) + ")":  "[[0 1]]",
		repeat("[", 62) + "(){" + "[)": "[[62 63]]",
		// What was opened behind the one that is closed is open no more.
		"[" + repeat("(", 62) + "]{}": "[[0 63] [64 65]]",
	} {
		if got := fmt.Sprint(pair.Brackets(text(s).parts())); got != want {
			t.Errorf("%s: %s", s, got)
		}
	}
}

func TestBracketsAsManyAsMayBeOpen(t *testing.T) {
	for n, want := range map[int]int{1: 1, 62: 62, 63: 63, 64: 0, 65: 0, 127: 0} {
		if got := pair.Brackets(text(strings.Repeat("(", n) + strings.Repeat(")", n)).parts()); len(got) != want {
			t.Errorf("of %d brackets: %d pairs", n, len(got))
		}
	}
	// The search is over: no one that is open is closed any more, and no other pair begins.
	for _, behind := range []string{")", "[]", ")[]", "))))()"} {
		checkNumber(t, strings.Repeat("(", 64)+behind, 0)
		checkNumber(t, "[]"+strings.Repeat("(", 64)+behind, 1)
		checkNumber(t, strings.Repeat("[", 62)+"()()()(("+behind, 3)
	}
	// What does not count does not open either.
	l := append(text(strings.Repeat("(", 63)), slices.Repeat(chars{{'(', L}, {'(', WS}, {'(', -1}, {'<', ON}, {'a', ON}}, 70)...)
	if got := pair.Brackets(append(l, text("))")...).parts()); len(got) != 2 {
		t.Errorf("behind brackets that do not count: %v", got)
	}
}

// checkNumber holds the number of the pairs against what is wanted, and the pairs against the model.
func checkNumber(t *testing.T, s string, want int) {
	t.Helper()
	runes, k := text(s).parts()
	checkBrackets(t, runes, k)
	if got := pair.Brackets(runes, k); len(got) != want {
		t.Errorf("%s: %v", s, got)
	}
}

func TestBracketsOfEveryCharacter(t *testing.T) {
	two := kinds{ON, ON}
	for r := rune(-2); r <= 0x110001; r++ {
		other, open, _ := class.Pair(r)
		for _, behind := range []rune{other, r, ')', '('} {
			c, _, ok := class.Pair(behind)
			want := open && ok && c == r
			if got := pair.Brackets([]rune{r, behind}, two); (len(got) == 1) != want {
				t.Errorf("%x and %x: %v", r, behind, got)
			}
		}
	}
}

func TestBracketsOfEveryKind(t *testing.T) {
	for a := range 256 {
		for b := range 256 {
			checkBrackets(t, []rune("((a))"), kinds{int8(a), ON, ON, int8(b), ON})
		}
	}
	if got := pair.Brackets([]rune("()"), kinds{WS, ON}); len(got) != 0 {
		t.Errorf("the one that opens has no kind of a bracket: %v", got)
	}
}

func TestBracketsOfShortLists(t *testing.T) {
	check := func(l chars) {
		runes, k := l.parts()
		checkBrackets(t, runes, k)
	}
	everyList(check)
	lists(nil, brackets, 6, check)
}

// P9.2

func TestResolveExamples(t *testing.T) {
	names := map[int8]string{L: "L", R: "R", EN: "E", AN: "A"}
	for _, x := range []struct {
		s        string
		level    uint8
		sos, eos int8
		want     string
	}{
		{"a(R)b", 0, L, L, "LLRLL"}, {"R(R)b", 0, R, L, "RRRRL"}, {"a(b)R", 1, L, R, "LLLLR"}, {"a R", 0, L, L, "LLR"}, {"a b", 1, R, R, "LLL"}, {" ", 1, L, L, "L"}, {"1 R", 0, L, L, "ERR"}, {"", 0, L, R, ""},
		// One of the level's direction settles it, whatever stands beside it and ahead.
		{"R(aR)R", 0, R, R, "RLLRLR"}, {"a(aR)a", 1, L, L, "LRLRRL"}, {"R(R a)", 0, R, R, "RLRLLL"},
		// Digits run to the left.
		{"R(1)a", 0, L, L, "RRERL"}, {"a(1)a", 1, L, L, "LRERL"}, {"1(R)a", 0, L, L, "ERRRL"}, {"a(1)R", 0, L, R, "LLELR"},
		// Ahead of the first stands sos.
		{"(R)a", 0, R, L, "RRRL"}, {"(R)a", 0, L, L, "LRLL"}, {" (a)R", 1, L, R, "LLLLR"}, {" (a)R", 1, R, R, "RRLRR"},
		// With nothing between that has a direction they are as all that is neutral.
		{"R()R", 0, L, L, "RRRR"}, {"R( )a", 0, L, L, "RLLLL"}, {"R(a", 0, L, L, "RLL"}, {"R)R", 0, L, L, "RRR"},
		// Marks go along, on both, as many as there are; not those that are not neutral, nor those behind another thing.
		{"R(*a*)**b", 1, R, R, "RRRLRRRRL"}, {"a(R)** R", 0, L, L, "LLRLLLLR"}, {"R(R)** a", 0, R, R, "RRRRRRLL"}, {"R(R) *a", 0, R, R, "RRRRLLL"}, {"R()*a", 0, R, R, "RLLLL"},
		// A pair within another one is settled behind it, by what then stands ahead.
		{"R((R)a)", 0, R, R, "RLLRLLL"}, {"R((R))a", 0, R, L, "RRRRRRL"}, {"a(R[R])a", 0, L, L, "LLRRRRLL"},
		// So is a pair behind another one.
		{"R(R)(R)a", 0, R, L, "RRRRRRRL"}, {"R(a)(R)a", 0, R, L, "RLLLLRLL"}, {"R(a)*(R)a", 0, R, L, "RLLLLLRLL"},
		// Stretches by their sides.
		{"R  R", 0, L, L, "RRRR"}, {"a  R", 1, L, R, "LRRR"}, {" a", 1, L, R, "LL"}, {" a", 1, R, R, "RL"}, {"a ", 1, R, L, "LL"}, {"a ", 1, R, R, "LR"}, {"1 1", 0, L, L, "ERE"}, {"a 1", 0, L, L, "LLE"}, {" ", 0, L, R, "L"}, {" ", 1, R, L, "R"}, {" ", 0, R, R, "R"}, {"R a R R", 0, L, R, "RLLLRRR"},
	} {
		runes, k := text(x.s).parts()
		got := ""
		for _, kind := range pair.Resolve(runes, k, x.level, x.sos, x.eos) {
			got += names[kind]
		}
		if got != x.want {
			t.Errorf("Resolve(%s, %d, %d, %d) = %s, not %s", x.s, x.level, x.sos, x.eos, got, x.want)
		}
	}
}

func TestListsOfUnlikeLengths(t *testing.T) {
	if got := pair.Resolve([]rune{'a'}, kinds{0, 0, 0}, 0, 0, 0); !slices.Equal(got, kinds{L}) {
		t.Errorf("of one rune and three kinds came %v", got)
	}
	runes, k := text("R(*a1)* (R)[a]").parts()
	for r := range len(runes) + 1 {
		for n := range len(k) + 1 {
			checkBrackets(t, runes[:r], k[:n])
			for _, s := range sidesOfAll {
				checkResolve(t, runes[:r], k[:n], 0, s[0], s[1])
				checkResolve(t, runes[:r], k[:n], 1, s[0], s[1])
			}
		}
	}
	// What one list has beyond the other is not asked, not even by the marks on a bracket.
	checkResolve(t, []rune("(a)"), kinds{ON, L, ON, ON, ON, R}, 1, L, L)
	checkResolve(t, []rune("(a)\u0301\u0301"), kinds{ON, L, ON}, 1, L, L)
}

func TestResolveOfShortLists(t *testing.T) {
	everyList(func(l chars) { checkResolveAround(t, l) })
}

func TestResolveOfEveryNumber(t *testing.T) {
	for number := range 256 {
		kind := int8(number)
		for _, x := range []struct {
			runes []rune
			kinds kinds
		}{
			{[]rune{'x'}, kinds{kind}}, {[]rune("x x"), kinds{kind, WS, R}}, {[]rune("x x"), kinds{L, WS, kind}}, {[]rune("(x)"), kinds{ON, kind, ON}}, {[]rune("x(x)"), kinds{kind, ON, R, ON}}, {[]rune("x(x)"), kinds{kind, ON, L, ON}}, {[]rune("(x)x"), kinds{kind, R, ON, L}}, {[]rune("(x)\u0301x"), kinds{ON, R, ON, kind, L}}, {[]rune("(\u0301x)"), kinds{ON, kind, L, ON}},
		} {
			for level := range uint8(2) {
				for _, s := range sidesOfAll {
					checkResolve(t, x.runes, x.kinds, level, s[0], s[1])
				}
			}
		}
		// As a level, as sos and as eos.
		runes, k := text(" (a) (R) ").parts()
		for _, side := range []int8{L, R} {
			checkResolve(t, runes, k, uint8(number), side, L)
			checkResolve(t, runes, k, uint8(number), side, R)
			for level := range uint8(2) {
				checkResolve(t, runes, k, level, kind, side)
				checkResolve(t, runes, k, level, side, kind)
			}
		}
	}
}

// The characters behind a bracket go along just if they are marks.
func TestMarksOfEveryCharacter(t *testing.T) {
	for r := rune(-2); r <= 0x110001; r++ {
		want := int8(L)
		if class.Dir(r) == NSM {
			want = R
		}
		// The brackets are R, eos is L, and so is the level: by its sides alone it is L.
		if got := pair.Resolve([]rune{'(', 0x5D0, ')', r}, kinds{ON, R, ON, ON}, 0, R, L); !slices.Equal(got, kinds{R, R, R, want}) {
			t.Errorf("%x behind a bracket: %v", r, got)
		}
	}
}
