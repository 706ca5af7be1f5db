package breaks_test

import (
	"slices"
	"strings"
	"testing"

	"shuttle/api"
	"shuttle/breaks"
	"shuttle/class"
)

// written is what Where tells, a sign a cluster: . may not, / may, ! must.
func written(where []int8) string {
	var b strings.Builder
	for _, says := range where {
		if says < api.MayNot || says > api.Must {
			return "no answer"
		}
		b.WriteByte("./!"[says])
	}
	return b.String()
}

// check holds Where and Lines of s against the model.
func check(t *testing.T, s string) {
	t.Helper()
	if got, want := written(breaks.Where(s)), written(where(s)); got != want {
		t.Errorf("Where(%+q) = %s, not %s", s, got, want)
	}
	checkLines(t, s, lines(s))
}

// both holds Where against want, and want against the model.
func both(t *testing.T, s, want string) {
	t.Helper()
	if got := written(where(s)); got != want {
		t.Errorf("the model says of %+q %s, not %s", s, got, want)
	}
	if got := written(breaks.Where(s)); got != want {
		t.Errorf("Where(%+q) = %s, not %s", s, got, want)
	}
}

// example is a text and what Where tells of it.
type example struct{ s, want string }

func bothOfAll(t *testing.T, examples []example) {
	t.Helper()
	for _, x := range examples {
		both(t, x.s, x.want)
	}
}

// P13.1: the chapter's examples.

func TestExamples(t *testing.T) {
	bothOfAll(t, []example{
		{"a b", "./."}, {"ab", ".."}, {"a  b", "../."}, {"", ""},
		{"a-b", "./."}, {"1-2", "..."}, {"a -b", ".//."}, {"(a)", "..."}, {"( a)", "...."},
		{"a\nb", ".!."}, {"a\r\n", ".!"}, {"a\u2028b", ".!."},
		{"\u4E16\u754C", "/."}, {"\u4E16.", ".."}, {"a\u4E16", "/."}, {"a\u00A0b", "..."}, {"a\u200Bb", "./."}, {"a\u2060 b", "../."},
		{"a,b", "..."}, {"a, b", "../."},
	})
}

// P13.1: each rule, with what those behind it would say, and what stands behind the last cluster.

func TestBehindTheLastOne(t *testing.T) {
	bothOfAll(t, []example{
		{"a", "."}, {" ", "."}, {"-", "."}, {"\u4E16", "."}, {"\u200B", "."}, {"(", "."}, {"\u200D", "."}, {"\xFF", "."}, {"\u0301", "."},
		{"\n", "!"}, {"\r\n", "!"}, {"\r", "!"}, {"\v", "!"}, {"\f", "!"}, {"\u0085", "!"}, {"\u2028", "!"}, {"\u2029", "!"},
		{"a ", ".."}, {"a-", ".."}, {"\u4E16\u4E16", "/."}, {"a\u200B ", "..."},
	})
}

func TestMust(t *testing.T) {
	for _, end := range []string{"\n", "\r\n", "\r", "\v", "\f", "\u0085", "\u2028", "\u2029"} {
		for _, c := range []string{"a", " ", "\t", "\u200B", "(", ")", "\u00A0", "-", "\u4E16", "\u0301", "1", ",", "\u200D", "\xFF"} {
			both(t, end+c, "!.")
			both(t, c+end, ".!")
			both(t, "("+end+c, ".!.")
			both(t, "\u200B"+end+c, ".!.")
		}
		both(t, end+end, "!!")
		both(t, "a "+end+" b", "..!/.")
	}
	bothOfAll(t, []example{{"\n\r", "!!"}, {"\r\n\n", "!!"}, {"\r\r\n", "!!"}, {"\n\u2029\v", "!!!"}})
}

func TestAheadOfSpaceAndZero(t *testing.T) {
	for _, c := range []string{"a", "(", ")", "\u00A0", "-", "\u4E16", "\u0301", "1", ",", "\u200D", "\xFF", "\u200B", "\u2060"} {
		both(t, c+"\u200B", "..")
		both(t, c+"\t", "..")
		both(t, c+"\u3000", "..")
		both(t, c+"\t\t", "...")
	}
	bothOfAll(t, []example{{" \u200B", ".."}, {" \u200Ba", "./."}, {"\u200B \u200B", "..."}, {"  ", ".."}, {" \u2003\t ", "...."}})
}

func TestBehindZero(t *testing.T) {
	for _, c := range []string{"a", "(", ")", "\u00A0", "\u2060", "-", "\u4E16", "1", ",", "\xFF", "\x07"} {
		both(t, "\u200B"+c, "/.")
		both(t, "\u200B "+c, "./.")
		both(t, "\u200B \t"+c, "../.")
		both(t, "(\u200B"+c, "./.")
		both(t, "( \u200B  "+c, "..../.")
	}
	bothOfAll(t, []example{
		{"\u200B\u0301", "/."}, {"\u200B\u200D", "/."}, {"\u200B\t\u200D", "./."}, {"\u200B \u0301", ".."},
		{"\u200B(\u4E16", "/.."}, {"\u200Ba)", "/.."}, {"\u200B\na)", ".!.."},
	})
}

func TestJoin(t *testing.T) {
	for _, c := range []string{"\t", "\u00AD", "\u2060", "\x07", "\xFF"} {
		both(t, c+"\u200D", "..")
	}
	for _, c := range []string{"\u4E16", "a", "-", "(", ")", "1", ",", "\u00A0", "\xFF", "\u202E"} {
		both(t, "\u200D"+c, "..")
		both(t, "\u200D\u0301"+c, "..")
	}
	// It is the first character that tells a cluster's class: here the joiner ends one.
	bothOfAll(t, []example{
		{"a\u200D\u4E16", "/."}, {"\u4E16\u200Da", "/."}, {"-\u200Da", "/."}, {"\u200D \u4E16", "./."}, {"\u200C\u200D\u4E16", "/."},
		{"\U0001F469\u200D\U0001F4BB\U0001F469", "/."},
	})
}

func TestGlue(t *testing.T) {
	for _, glue := range []string{"\u00A0", "\u2007", "\u202F", "\u2060", "\uFEFF"} {
		for _, c := range []string{"a", "(", ")", "\u00A0", "\u4E16", "\u0378", "1", ",", "\xFF"} {
			both(t, glue+c, "..")
			both(t, c+glue, "..")
			both(t, "\u4E16"+glue+"\u4E16", "...")
		}
		bothOfAll(t, []example{
			{glue + "-", ".."}, {" " + glue, "/."}, {"\t" + glue + "\u4E16", "/.."}, {"-" + glue, "/."}, {"\u2010" + glue + "a", "/.."},
			{glue + " " + glue, "./."}, {glue + " -", "./."}, {"(" + glue, ".."}, {"( " + glue, "..."}, {"1-" + glue + "2", "./.."},
		})
	}
}

func TestOpenAndClose(t *testing.T) {
	for _, c := range []string{"a", "1", "\u4E16", "\xFF", "\u0301"} {
		bothOfAll(t, []example{{c + ")", ".."}, {c + " )", "..."}, {c + " \t)", "...."}})
	}
	for _, c := range []string{"a", "1", "\u4E16", "\xFF", "-", ",", "(", ")", "\u00A0"} {
		bothOfAll(t, []example{{"(" + c, ".."}, {"( " + c, "..."}, {"( \t" + c, "...."}, {"a( " + c, "...."}})
	}
	bothOfAll(t, []example{
		{")", "."}, {" )", ".."}, {"-)", ".."}, {"- )", "..."}, {"-!", ".."}, {",)", ".."}, {"()", ".."}, {"( )", "..."},
		{")\u4E16", "/."}, {") a", "./."}, {")a", ".."}, {"a(", ".."}, {"a (", "./."}, {"\u4E16(", "/."}, {"-(", "/."},
		{"(a \u4E16", "../."}, {"(a\u4E16", "./."}, {"(\u0301\u4E16", ".."}, {"\u300C\u4E16\u300D\u4E16", "../."}, {"\u4E16\u3002\u4E16", "./."},
	})
}

func TestInfix(t *testing.T) {
	for _, sign := range []string{",", ".", "/", ":", ";", "\u060C", "\u066B"} {
		bothOfAll(t, []example{
			{"a" + sign, ".."}, {"\u4E16" + sign, ".."}, {"-" + sign, ".."}, {sign + sign, ".."}, {")" + sign, ".."}, {"1" + sign + "2", "..."},
			{"a " + sign, "./."}, {" " + sign, "/."}, {"\t\t" + sign, "./."}, {"( " + sign, "..."},
			{sign + "a", ".."}, {sign + "1", ".."}, {sign + "-", ".."}, {sign + "\u4E16", "/."}, {sign + "(", ".."}, {sign + " a", "./."},
		})
	}
}

func TestSpaced(t *testing.T) {
	for _, space := range []string{" ", "\t", "\u1680", "\u2000", "\u2006", "\u2008", "\u205F", "\u3000", " \u0301"} {
		for _, c := range []string{"a", "(", "-", "\u4E16", "1", ",", "\xFF", "\x07", "\u00A0"} {
			bothOfAll(t, []example{
				{space + c, "/."}, {space + space + c, "./."}, {"a" + space + c, "./."}, {"-" + space + c, "./."}, {"\u4E16" + space + c, "./."},
				{"\u00A0" + space + c, "./."}, {"1," + space + c, "../."}, {"\n" + space + c, "!/."}, {"(a" + space + c, "../."},
			})
		}
	}
}

func TestHyphen(t *testing.T) {
	for _, sign := range []string{"-", "\u00AD", "\u058A", "\u05BE", "\u2010", "\u2012", "\u2014"} {
		for _, c := range []string{"a", "1", "\u4E16", ")", ",", "\xFF", "\u200D", sign} {
			both(t, c+sign, "..")
		}
		for _, c := range []string{"a", "\u4E16", "(", "\xFF", "\x07", "\uE000", "\u2060"} {
			both(t, sign+c, "/.")
		}
		for _, digit := range []string{"1", "\u0661", "\u06F1", "\uFF11"} {
			bothOfAll(t, []example{{sign + digit, ".."}, {"a" + sign + digit, "..."}, {sign + " " + digit, "./."}, {sign + sign + digit, "..."}})
		}
		bothOfAll(t, []example{{sign + ")", ".."}, {" " + sign, "/."}, {sign + sign + "a", "./."}, {sign + " a", "./."}})
	}
	bothOfAll(t, []example{{"-\u0301a", "/."}, {"-\u03011", ".."}, {"-\u00B2", "/."}})
}

func TestIdeo(t *testing.T) {
	for _, sign := range []string{"\u4E16", "\u3042", "\uAC00\u11A8", "\uFF21", "\U0001F469", "\U00020000", "\u4E16\u0301"} {
		for _, c := range []string{"a", "1", "\xFF", "\x07", "\uE000", "\u3042", "\uFF11"} {
			bothOfAll(t, []example{{sign + c, "/."}, {c + sign, "/."}})
		}
		bothOfAll(t, []example{{sign + "(", "/."}, {")" + sign, "/."}, {"," + sign, "/."}, {sign + sign + sign, "//."}})
	}
	bothOfAll(t, []example{{"\u4E16\u0301", "."}, {"\n\u302A\u4E16", "!/."}, {"\U0001F1E6\U0001F1E7\U0001F1E8", ".."}})
}

func TestAllElse(t *testing.T) {
	for _, a := range []string{"a", "1", ",", ")", "\xFF", "\x07", "\u0378", "\u05D0", "\uE000"} {
		for _, b := range []string{"b", "2", "(", "\xFE", "\x08", "\u05D1", "\uFFFD", "\u200E"} {
			both(t, a+b, "..")
		}
	}
	bothOfAll(t, []example{{"\u0301a", ".."}, {"\x07\u0301a", "..."}, {"a\xFF\u0301b", "...."}, {"\u1100\u1161a", ".."}})
}

// parts are one character, or bad byte, for each thing that the chapter tells apart.
var parts = []string{
	"a", " ", "\n", "(", ")", "\u00A0", "-", "\u4E16", "\u0301", "\u200B", "1", ",", "\u200D", "\xFF", "\x07",
}

// texts hands out s and all texts that have up to n of the parts behind it.
func texts(s string, n int, f func(s string)) {
	f(s)
	if n == 0 {
		return
	}
	for _, part := range parts {
		texts(s+part, n-1, f)
	}
}

func TestAllShortTexts(t *testing.T) {
	texts("", 4, func(s string) {
		if !t.Failed() {
			check(t, s)
		}
	})
}

// Every character, behind and ahead of such as show its class.
func TestEveryCharacter(t *testing.T) {
	for _, other := range []string{"\u4E16", "-"} {
		var b strings.Builder
		for r := rune(0); r <= 0x10FFFF; r++ {
			// A number that is none becomes EF BF BD.
			b.WriteString(other + string([]rune{r}))
		}
		s := b.String()
		got, want := breaks.Where(s), where(s)
		for i, c := range laid(s) {
			if i >= len(got) || got[i] != want[i] {
				t.Fatalf("behind the cluster %d, %+q, among %+q", i, c, other)
			}
		}
		if len(got) != len(want) {
			t.Errorf("%d, not %d", len(got), len(want))
		}
	}
}

// What has one class is taken alike, be it the first or the last one of its stretch.
func TestEveryClass(t *testing.T) {
	like := map[int]string{
		api.BreakAlpha: "a", api.BreakSpace: " ", api.BreakMust: "\n", api.BreakOpen: "(", api.BreakClose: ")", api.BreakGlue: "\u00A0",
		api.BreakHyphen: "-", api.BreakIdeo: "\u4E16", api.BreakMark: "a", api.BreakZero: "\u200B", api.BreakDigit: "1", api.BreakInfix: ",",
		api.BreakJoin: "\u200D",
	}
	for value, c := range like {
		for _, span := range class.Spans(api.TabBreak, value) {
			for _, r := range []rune{span.From, span.To} {
				for _, other := range parts {
					// A bad byte on both sides: nothing takes r into its cluster.
					got := breaks.Where(other + "\xFF" + string([]rune{r}) + "\xFF" + other)
					if want := breaks.Where(other + "\xFF" + c + "\xFF" + other); !slices.Equal(got, want) {
						t.Errorf("%x by %+q: %s, not %s", r, other, written(got), written(want))
					}
				}
			}
		}
	}
}
