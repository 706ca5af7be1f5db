package row_test

import (
	"math"
	"slices"
	"strings"
	"testing"

	"shuttle/api"
	"shuttle/class"
	"shuttle/row"
)

// whole is the row of a whole line, w columns wide.
func whole(line string, w int) api.Row { return api.Row{Len: len(line), Wide: w} }

// checkCells holds Cells and Stops against the model, which it tells.
func checkCells(t *testing.T, line string, r api.Row, look api.Look) (model, []api.Caret) {
	t.Helper()
	m := modelOf(line, r, look)
	if got, want := row.Cells(line, r, look), m.cells(); !slices.Equal(got, want) {
		t.Errorf("Cells(%+q, %v, %v) = %s, not %s", line, r, look, told(got), told(want))
	}
	stops := m.stops(line)
	if got := row.Stops(line, r, look); !slices.Equal(got, stops) {
		t.Errorf("Stops(%+q, %v, %v) = %s, not %s", line, r, look, carets(got), carets(stops))
	}
	return m, stops
}

// check holds all of the row against the model.
func check(t *testing.T, line string, r api.Row, look api.Look) {
	t.Helper()
	m, stops := checkCells(t, line, r, look)
	for at := m.from - 1; at <= m.to+1; at++ {
		for _, back := range []bool{false, true} {
			c := api.Caret{At: at, Back: back, Want: at}
			if got, want := row.Place(line, r, look, c), m.place(line, c); got != want {
				t.Errorf("Place(%+q, %v, %v, %v) = %d, not %d", line, r, look, c, got, want)
			}
		}
	}
	for x := -1; x <= m.columns+1; x++ {
		if got, want := row.Hit(line, r, look, x), m.hit(line, stops, x); got != want {
			t.Errorf("Hit(%+q, %v, %v, %d) = %v, not %v", line, r, look, x, got, want)
		}
	}
}

// example is a row, and its cells as told.
type example struct {
	line string
	row  api.Row
	look api.Look
	want string
}

// both holds Cells against what each example wants, and that against the model.
func both(t *testing.T, examples []example, told func([]api.Cell) string) {
	t.Helper()
	for _, x := range examples {
		if got := told(modelOf(x.line, x.row, x.look).cells()); got != x.want {
			t.Errorf("the model says of %+q, %v, %v: %+q, not %+q", x.line, x.row, x.look, got, x.want)
		}
		if got := told(row.Cells(x.line, x.row, x.look)); got != x.want {
			t.Errorf("Cells(%+q, %v, %v) = %+q, not %+q", x.line, x.row, x.look, got, x.want)
		}
		check(t, x.line, x.row, x.look)
	}
}

var (
	zero  api.Look
	right = api.Look{Want: api.WantRight}
	left  = api.Look{Want: api.WantLeft}
	raw   = api.Look{Raw: true}
	joint = api.Look{Join: true}
)

const turned = "a\u05D0\u05D1b"

// P15.1: the chapter's examples.

func TestExamples(t *testing.T) {
	both(t, []example{
		{"a\u4E16b", whole("a\u4E16b", 9), zero, `a:0+1 \u4e16:1+3 . part 1:1+3 b:4+1`},
		{"\xFF\x01", whole("\xFF\x01", 9), zero, `<:0+1 f:0+1 f:0+1 >:0+1 ^:1+1 A:1+1`},
		{turned, whole(turned, 9), zero, `a:0+1 \u05d1:3+2< \u05d0:1+2< b:5+1`},
		{"\u05D0(a)\u05D1", whole("\u05D0(a)\u05D1", 9), right, `\u05d1:5+2< (:4+1< a:3+1 ):2+1< \u05d0:0+2<`},
		{"a\u0301\n", whole("a\u0301\n", 9), zero, `a\u0301:0+3`},
		{"a  ", whole("a  ", 2), zero, `a:0+1 _:1+1`},
		// The first three examples of the whole.
		{"a\xE4\xB8", whole("a\xE4\xB8", 9), zero, `a:0+1 <:1+1 e:1+1 4:1+1 >:1+1 <:2+1 b:2+1 8:2+1 >:2+1`},
		{"e\u0301", whole("e\u0301", 9), zero, `e\u0301:0+3`},
		{turned, whole(turned, 4), zero, `a:0+1 \u05d1:3+2< \u05d0:1+2< b:5+1`},
	}, told)
}

// Words: which clusters are the row's.

func TestStretch(t *testing.T) {
	const line = "ab\u0301cd\u4E16e"
	for _, x := range []struct {
		at, len int
		want    string
	}{
		{0, 10, "ab\u0301cd\u4E16.e"}, {0, 0, ""}, {0, 1, "a"}, {1, 3, "b\u0301"}, {1, 4, "b\u0301c"},
		// A border that lies in the midst of a cluster is the one behind it.
		{0, 2, "ab\u0301"}, {0, 3, "ab\u0301"}, {0, 4, "ab\u0301"}, {1, 1, "b\u0301"}, {1, 2, "b\u0301"},
		{2, 3, "c"}, {3, 3, "cd"}, {2, 2, ""}, {2, 1, ""}, {3, 1, ""}, {2, 0, ""}, {7, 1, ""}, {7, 3, "e"}, {8, 2, "e"}, {6, 1, "\u4E16."}, {6, 2, "\u4E16."}, {5, 2, "d\u4E16."},
		// Numbers that are no places.
		{-1, 1, "a"}, {-3, 2, "ab\u0301"}, {math.MinInt, 1, "a"}, {math.MinInt, math.MaxInt, "ab\u0301cd\u4E16.e"},
		{0, -1, ""}, {4, -1, ""}, {4, -4, ""}, {0, math.MinInt, ""}, {2, -1, ""}, {4, 0, ""},
		{4, math.MaxInt, "cd\u4E16.e"}, {9, math.MaxInt, "e"}, {9, 1, "e"}, {9, 2, "e"}, {10, 1, ""}, {10, 0, ""}, {11, 1, ""}, {99, 99, ""}, {math.MaxInt, math.MaxInt, ""}, {math.MaxInt, 1, ""}, {math.MaxInt, math.MinInt, ""}, {10, -5, ""},
	} {
		both(t, []example{{line, api.Row{At: x.at, Len: x.len, Wide: 99}, zero, x.want}}, texts)
	}
	both(t, []example{
		{"\r\na", api.Row{At: 1, Len: 2}, zero, "a"}, {"\xE4\xB8", api.Row{At: 1, Len: 1}, zero, "<b8>"}, {"a\xE4\xB8\u0301", api.Row{At: 0, Len: 2}, zero, "a<e4>"},
		{"", api.Row{Len: 5, Wide: 5}, zero, ""}, {"", api.Row{At: 5, Len: -5, Wide: -5}, right, ""},
	}, texts)
}

func TestLevelDoesNotCount(t *testing.T) {
	for _, level := range []uint8{0, 1, 2, 127, 255} {
		r := api.Row{At: 0, Len: 6, Level: level, Wide: 9}
		both(t, []example{{turned, r, zero, "a\u05D1\u05D0b"}, {"ab", r, zero, "ab"}, {"\u05D0\u05D1", r, zero, "\u05D1\u05D0"}}, texts)
		if n := row.Place("ab", r, zero, api.Caret{At: 2}); n != 2 {
			t.Errorf("with the level %d the end stands at %d", level, n)
		}
	}
}

// Words: levels are those of the whole line.

func TestLevels(t *testing.T) {
	const mixed = "\u05D0 ab 12 cd \u05D1"
	both(t, []example{
		{turned, whole(turned, 9), raw, turned},
		{turned, whole(turned, 9), api.Look{Raw: true, Want: api.WantRight}, turned},
		{"ab", whole("ab", 9), right, "ab"},
		{"ab.", whole("ab.", 9), right, ".ab"},
		{"ab.", whole("ab.", 9), api.Look{Want: -1}, "ab."},
		{"ab.", whole("ab.", 9), api.Look{Want: 3}, "ab."},
		{"\u05D0.", whole("\u05D0.", 9), zero, ".\u05D0"},
		{"\u05D0.", whole("\u05D0.", 9), left, "\u05D0."},
		{mixed, whole(mixed, 99), zero, "\u05D1_ab_12_cd_\u05D0"},
		// What a row does not have counts, too: its base is the line's.
		{mixed, api.Row{At: 3, Len: 6, Wide: 9}, zero, "_ab_12"},
		{mixed, api.Row{At: 3, Len: 5, Wide: 9}, zero, "ab_12"},
		{mixed, api.Row{At: 5, Len: 3, Wide: 9}, left, "_12"},
		{"a)\u05D0", api.Row{At: 1, Len: 9, Wide: 9}, right, "\u05D0("},
		{"\u05D0 1", api.Row{At: 3, Len: 1, Wide: 9}, left, "1"},
		{"\u05D0 1-2", api.Row{At: 3, Len: 3, Wide: 9}, zero, "1-2"},
		{"1-2", whole("1-2", 9), right, "1-2"},
		{"\u05D0-(", api.Row{At: 2, Len: 2, Wide: 9}, zero, ")-"},
		{"a-(", api.Row{At: 1, Len: 2, Wide: 9}, zero, "-("},
		// A blank at the row's end has the base.
		{"\u05D0 \u05D1", api.Row{At: 0, Len: 3, Wide: 9}, left, "\u05D0_"},
		{"\u05D0 \u05D1", whole("\u05D0 \u05D1", 9), left, "\u05D1_\u05D0"},
		{"ab cd", api.Row{At: 0, Len: 3, Wide: 9}, right, "_ab"},
		{"ab cd\n", api.Row{At: 0, Len: 6, Wide: 9}, right, "ab_cd"},
		{"\u05D0\t\u05D1", whole("\u05D0\t\u05D1", 99), left, "\u05D0_______\u05D1"},
		// Signs that say levels.
		{"\u202Eab\u202Cc", whole("\u202Eab\u202Cc", 9), zero, "bac"},
		{"\u202Eab\u202Cc", api.Row{At: 3, Len: 2, Wide: 9}, zero, "ba"},
		{"\u202Eab", whole("\u202Eab", 99), raw, "<202e>ab"},
		// The levels of a line's paragraphs.
		{"\u05D0\na.", whole("\u05D0\na.", 9), zero, ".a\u05D0"},
		{"a\n\u05D0.", whole("a\n\u05D0.", 9), zero, "a\u05D0."},
		// A bad byte is as FFFD.
		{"\u05D0\xFF\u05D1", whole("\u05D0\xFF\u05D1", 9), left, "\u05D1<ff>\u05D0"},
		{"a\xFFb", whole("a\xFFb", 9), right, "a<ff>b"},
		{"\xFFb", whole("\xFFb", 9), right, "b<ff>"},
	}, texts)
}

func TestTheLevelOfAClusterIsItsFirstOne(t *testing.T) {
	both(t, []example{
		// 0D 0A: both have the base. A mark has the level of what is ahead of it, but the joiner at a row's end has the base.
		{"\u05D0\u0301\u200D", whole("\u05D0\u0301\u200D", 9), left, `\u05d0\u0301\u200d:0+7<`},
		{"a\u0301\u200D", whole("a\u0301\u200D", 9), right, `a\u0301\u200d:0+6`},
		{"1\u200D", whole("1\u200D", 9), right, `1\u200d:0+4`},
		{" \u0301\u05D0", whole(" \u0301\u05D0", 9), left, ` \u0301:0+3 \u05d0:3+2<`},
	}, told)
}

// Words: what a cluster becomes.

func TestMirrored(t *testing.T) {
	both(t, []example{
		{"(", whole("(", 9), right, ")"},
		{"(", whole("(", 9), zero, "("},
		{"(", whole("(", 9), api.Look{Want: api.WantRight, Raw: true}, "("},
		{"[<{\u00AB\u3008", whole("[<{\u00AB\u3008", 99), right, "\u3009.\u00BB}" + string(class.Mirror('<')) + "]"},
		{"a(b", whole("a(b", 9), right, "a(b"},
		{"a\u05D0(\u05D1", whole("a\u05D0(\u05D1", 9), zero, "a\u05D1)\u05D0"},
		// Its first character alone.
		{"(\u0301", whole("(\u0301", 9), right, ")\u0301"},
		{"(\u0301\u200D\u0302)", whole("(\u0301\u200D\u0302)", 9), right, "()\u0301\u200D\u0302"},
		{"\u05D0\u0301", whole("\u05D0\u0301", 9), right, "\u05D0\u0301"},
	}, texts)
	for r := range rune(0x10FFFF + 1) {
		if class.Mirror(r) != r {
			both(t, []example{{string(r), whole(string(r), 9), raw, string(r) + strings.Repeat(".", class.Wide(r, false)-1)}}, texts)
			check(t, string(r), whole(string(r), 9), right)
			check(t, string(r)+"\u0301", whole(string(r)+"\u0301", 9), api.Look{Want: api.WantRight, Wide: true})
		}
	}
}

func TestJoined(t *testing.T) {
	const line = "\u0628\u0628\u0628"
	both(t, []example{
		{line, whole(line, 9), zero, line},
		{line, whole(line, 9), joint, "\uFE90\uFE92\uFE91"},
		{line, whole(line, 9), api.Look{Join: true, Raw: true}, "\uFE91\uFE92\uFE90"},
		// They are joined within the row alone.
		{line, api.Row{At: 0, Len: 2, Wide: 9}, joint, "\uFE8F"},
		{line, api.Row{At: 0, Len: 4, Wide: 9}, joint, "\uFE90\uFE91"},
		{line, api.Row{At: 2, Len: 4, Wide: 9}, joint, "\uFE90\uFE91"},
		{line, api.Row{At: 2, Len: 2, Wide: 9}, joint, "\uFE8F"},
		// But not by how they are seen: by how they stand in the line.
		{"\u0628a\u0628", whole("\u0628a\u0628", 9), joint, "\uFE8Fa\uFE8F"},
		// Marks do not part them, a bad byte does.
		{"\u0628\u064B\u0628", whole("\u0628\u064B\u0628", 9), joint, "\uFE90\uFE91\u064B"},
		{"\u0628\xFF\u0628", whole("\u0628\xFF\u0628", 9), joint, "\uFE8F<ff>\uFE8F"},
		{"\u0628\u200D", whole("\u0628\u200D", 9), joint, "\uFE91\u200D"},
		{"\u0628\u200C\u0628", whole("\u0628\u200C\u0628", 9), joint, "\uFE8F\uFE8F\u200C"},
		{"\u200D\u0628", whole("\u200D\u0628", 9), joint, "\uFE90\u25CC\u200D"},
		{"\u0644\u0627", whole("\u0644\u0627", 9), joint, "\uFE8E\uFEDF"},
		{"(\u0628", whole("(\u0628", 9), api.Look{Join: true, Want: api.WantRight}, "\uFE8F)"},
		// What hangs still parts them, and blanks do.
		{"\u0628 \u0628", whole("\u0628 \u0628", 9), joint, "\uFE8F_\uFE8F"},
		{"a(", whole("a(", 9), joint, "a("},
	}, texts)
}

func TestBadBytesStayAsTheyAre(t *testing.T) {
	both(t, []example{
		{"\uFFFD", whole("\uFFFD", 9), joint, `\ufffd:0+3`},
		{"\xFF", whole("\xFF", 9), joint, `<:0+1 f:0+1 f:0+1 >:0+1`},
		{"\xFF", whole("\xFF", 9), api.Look{Join: true, Want: api.WantRight}, `<:0+1< f:0+1< f:0+1< >:0+1<`},
		{"\uFFFD", whole("\uFFFD", 9), right, `\ufffd:0+3<`},
		{"\u05D0\xFF\uFFFD", whole("\u05D0\xFF\uFFFD", 9), zero, `\ufffd:3+3< <:2+1< f:2+1< f:2+1< >:2+1< \u05d0:0+2<`},
		{"\xE2\x80", whole("\xE2\x80", 9), right, `<:1+1< 8:1+1< 0:1+1< >:1+1< <:0+1< e:0+1< 2:0+1< >:0+1<`},
	}, told)
}

// Words: its columns.

func TestTabs(t *testing.T) {
	four := api.Look{Tab: 4}
	both(t, []example{
		{"\t", whole("\t", 9), zero, "________"},
		{"\t", whole("\t", 9), four, "____"},
		{"a\tb", whole("a\tb", 9), four, "a___b"},
		{"a\t\tb", whole("a\t\tb", 9), four, "a_______b"},
		{"a\tb", whole("a\tb", 9), api.Look{Tab: 17}, "a_______b"},
		{"abc\tb", whole("abc\tb", 9), four, "abc_b"},
		// Columns are counted from the row's beginning, not the line's.
		{"abc\tb", api.Row{At: 2, Len: 9, Wide: 9}, four, "c___b"},
		{"abc\tb", api.Row{At: 3, Len: 9, Wide: 9}, four, "____b"},
		// They are those ahead in the line, not those to the left.
		{"a\u05D0\u05D1\t\u05D2\u05D3", whole("a\u05D0\u05D1\t\u05D2\u05D3", 99), api.Look{Tab: 4}, "a\u05D1\u05D0_\u05D3\u05D2"},
		{"\u05D0\t\u05D1", whole("\u05D0\t\u05D1", 99), four, "\u05D1___\u05D0"},
		{"\u05D0\t", whole("\u05D0\t", 99), four, "___\u05D0"},
		{"\u4E16\t\u0301", whole("\u4E16\t\u0301", 99), four, "\u4E16.__\u25CC\u0301"},
		{"\xFF\xFF\t.", whole("\xFF\xFF\t.", 99), api.Look{Tab: 5}, "<ff><ff>__."},
		{"\u202Aa\tb", whole("\u202Aa\tb", 99), api.Look{Tab: 3, Raw: true}, "<202a>a__b"},
	}, texts)
	both(t, []example{{"a\tb", whole("a\tb", 9), api.Look{Tab: 3}, `a:0+1 _:1+1 _:1+1 b:2+1`}, {"a\t", whole("a\t", 9), api.Look{Tab: 2, Want: api.WantRight}, `_:1+1< a:0+1`}}, told)
}

func TestBlanksHang(t *testing.T) {
	both(t, []example{
		{"a  ", whole("a  ", 0), zero, "a"},
		{"a  ", whole("a  ", 1), zero, "a"},
		{"a  ", whole("a  ", 2), zero, "a_"},
		{"a  ", whole("a  ", 3), zero, "a__"},
		{"a  ", whole("a  ", -1), zero, "a"},
		{"a  ", whole("a  ", math.MinInt), zero, "a"},
		{"a  ", whole("a  ", math.MaxInt), zero, "a__"},
		{"   ", whole("   ", 2), zero, "__"},
		{"   ", whole("   ", 0), zero, ""},
		// The columns of all that is no blank are there, however many they are.
		{"abc", whole("abc", 1), zero, "abc"},
		{"a b", whole("a b", 1), zero, "a_b"},
		{"  b", whole("  b", 0), zero, "__b"},
		{" a b  ", whole(" a b  ", 3), zero, "_a_b"},
		{" a b  ", whole(" a b  ", 5), zero, "_a_b_"},
		// All behind the first one that hangs hang, too.
		{"ab\u3000 ", whole("ab\u3000 ", 3), zero, "ab"},
		{"ab\u3000 ", whole("ab\u3000 ", 4), zero, "ab\u3000."},
		{"ab \u3000 ", whole("ab \u3000 ", 4), zero, "ab_"},
		{"a\t ", whole("a\t ", 7), zero, "a"},
		{"a\t ", whole("a\t ", 8), zero, "a_______"},
		{"\t", whole("\t", 7), zero, ""},
		{"a\t", whole("a\t", 3), api.Look{Tab: 4}, "a"},
		{"a\t", whole("a\t", 4), api.Look{Tab: 4}, "a___"},
		// By its first character it is a blank.
		{"a \u0301 ", whole("a \u0301 ", 1), zero, "a"},
		{"a \u0301 ", whole("a \u0301 ", 2), zero, "a \u0301"},
		{"a\u0301 ", whole("a\u0301 ", 1), zero, "a\u0301"},
		// What is no blank stands at the end, seen or not: then none of them hangs.
		{"a \u200B", whole("a \u200B", 1), zero, "a_"},
		{"a \u202C", whole("a \u202C", 1), zero, "a_"},
		{"a \n", whole("a \n", 1), zero, "a_"},
		{"a \u200B ", whole("a \u200B ", 1), zero, "a_"},
		{"a\u00A0", whole("a\u00A0", 1), zero, "a\u00A0"},
		{"a\u2007\u202F", whole("a\u2007\u202F", 1), zero, "a\u2007\u202F"},
		{"a \xFF", whole("a \xFF", 1), zero, "a_<ff>"},
		{"a\xA0", whole("a\xA0", 1), zero, "a<a0>"},
		// It is the row's end that counts, not the line's.
		{"a  b", api.Row{At: 0, Len: 3, Wide: 2}, zero, "a_"},
		{"a  b", api.Row{At: 1, Len: 2, Wide: 1}, zero, "_"},
		{"a  b", api.Row{At: 1, Len: 3, Wide: 1}, zero, "__b"},
		// They hang at the left, where the base is odd.
		{"\u05D0  ", whole("\u05D0  ", 2), zero, "_\u05D0"},
		{"\u05D0  ", whole("\u05D0  ", 1), zero, "\u05D0"},
		{"\u05D0  ", whole("\u05D0  ", 2), left, "\u05D0_"},
		{"ab  ", whole("ab  ", 3), right, "_ab"},
	}, texts)
}

// P15.1: which cells a cluster has.

func TestCellsOfOneCluster(t *testing.T) {
	marks := strings.Repeat("\u0301", 31)
	both(t, []example{
		{"a" + marks, whole("a"+marks, 9), zero, "a" + marks},
		{"\u0302", whole("\u0302", 9), zero, "\u25CC\u0302"},
		{"\u200C", whole("\u200C", 9), zero, "\u25CC\u200C"},
		{"\u0302" + marks[2:], whole("\u0302"+marks[2:], 9), zero, "\u25CC\u0302" + marks[2:]},
		{"\u0302" + marks, whole("\u0302"+marks, 9), zero, "\u25CC\u0302" + marks[2:]},
		{"\u25CC", whole("\u25CC", 9), zero, "\u25CC"},
		{"\u25CC" + marks, whole("\u25CC"+marks, 9), zero, "\u25CC" + marks},
		{"\u4E16" + marks, whole("\u4E16"+marks, 9), zero, "\u4E16" + marks + "."},
		{"\U0001F1E6\U0001F1E7", whole("\U0001F1E6\U0001F1E7", 9), zero, "\U0001F1E6\U0001F1E7."},
		{"\U0001F469\u200D\U0001F4BB", whole("\U0001F469\u200D\U0001F4BB", 9), zero, "\U0001F469\u200D\U0001F4BB."},
		{"\u2764\uFE0F", whole("\u2764\uFE0F", 9), zero, "\u2764\uFE0F."},
		{"\u03B1", whole("\u03B1", 9), api.Look{Wide: true}, "\u03B1."},
		{"\u03B1", whole("\u03B1", 9), zero, "\u03B1"},
		{"<", whole("<", 9), zero, "<"},
		{"^A", whole("^A", 9), zero, "^A"},
		{"\x00\x1F\x7F\r", whole("\x00\x1F\x7F\r", 9), zero, "^@^_^?^M"},
		{"\r\n", whole("\r\n", 9), zero, ""},
		{"\n", whole("\n", 9), raw, ""},
		{"a\u200E\u200Bb\uFEFF\u0085", whole("a\u200E\u200Bb\uFEFF\u0085", 9), zero, "ab"},
		{"a\u200Eb", whole("a\u200Eb", 9), raw, "a<200e>b"},
		{"\u2028\u0085", whole("\u2028\u0085", 9), raw, "<2028><0085>"},
		{"\u1161", whole("\u1161", 9), zero, ""},
	}, texts)
	both(t, []example{
		{"\u05D0\u4E16", whole("\u05D0\u4E16", 9), zero, `\u4e16:2+3 . part 1:2+3 \u05d0:0+2<`},
		{"\u202E\u4E16\u4E00", whole("\u202E\u4E16\u4E00", 9), zero, `\u4e00:6+3< . part 1:6+3< \u4e16:3+3< . part 1:3+3<`},
		{"\u0302a", whole("\u0302a", 9), zero, `\u25cc\u0302:0+2 a:2+1`},
		{"\u200E", whole("\u200E", 9), raw, `<:0+3 2:0+3 0:0+3 0:0+3 e:0+3 >:0+3`},
		{"\u202Eb\x01c", whole("\u202Eb\x01c", 9), zero, `c:5+1< ^:4+1< A:4+1< b:3+1<`},
	}, told)
}

// P15.2

// placeOf holds Place against want, and both against the model.
func placeOf(t *testing.T, line string, r api.Row, look api.Look, c api.Caret, want int) {
	t.Helper()
	if got := modelOf(line, r, look).place(line, c); got != want {
		t.Errorf("the model says of %+q, %v, %v, %v: %d, not %d", line, r, look, c, got, want)
	}
	if got := row.Place(line, r, look, c); got != want {
		t.Errorf("Place(%+q, %v, %v, %v) = %d, not %d", line, r, look, c, got, want)
	}
}

func TestPlace(t *testing.T) {
	for _, x := range []struct {
		line  string
		row   api.Row
		look  api.Look
		ahead []int
		back  []int
	}{
		// For each place from one ahead of the line to one behind it.
		{turned, whole(turned, 9), zero, []int{0, 0, 3, 3, 2, 2, 3, 4, 4}, []int{0, 0, 1, 1, 2, 2, 1, 4, 4}},
		{turned, whole(turned, 9), raw, []int{0, 0, 1, 1, 2, 2, 3, 4, 4}, []int{0, 0, 1, 1, 2, 2, 3, 4, 4}},
		{"", whole("", 9), zero, []int{0, 0, 0}, []int{0, 0, 0}},
		{"", whole("", 9), right, []int{0, 0, 0}, []int{0, 0, 0}},
		{"ab", whole("ab", 9), zero, []int{0, 0, 1, 2, 2}, []int{0, 0, 1, 2, 2}},
		{"ab", whole("ab", 9), right, []int{0, 0, 1, 0, 0}, []int{2, 2, 1, 2, 2}},
		{"\u05D0\u05D1", whole("\u05D0\u05D1", 9), zero, []int{2, 2, 2, 1, 1, 0, 0}, []int{2, 2, 2, 1, 1, 0, 0}},
		{"\u05D0\u05D1", whole("\u05D0\u05D1", 9), left, []int{2, 2, 2, 1, 1, 2, 2}, []int{0, 0, 0, 1, 1, 0, 0}},
		{"a\u0301b", whole("a\u0301b", 9), zero, []int{0, 0, 0, 0, 1, 2, 2}, []int{0, 0, 0, 0, 1, 2, 2}},
		{"abc", api.Row{At: 1, Len: 1, Wide: 9}, zero, []int{0, 0, 0, 1, 1, 1}, []int{0, 0, 0, 1, 1, 1}},
		{"abc", api.Row{At: 1, Len: 1, Wide: 9}, right, []int{0, 0, 0, 0, 0, 0}, []int{1, 1, 1, 1, 1, 1}},
		{"abc", api.Row{At: 1, Len: 0, Wide: 9}, right, []int{0, 0, 0, 0, 0, 0}, []int{0, 0, 0, 0, 0, 0}},
		{"a\t\xFFb", whole("a\t\xFFb", 9), api.Look{Tab: 4}, []int{0, 0, 1, 4, 8, 9, 9}, []int{0, 0, 1, 4, 8, 9, 9}},
		{"a\u200B\n", whole("a\u200B\n", 9), zero, []int{0, 0, 1, 1, 1, 1, 1, 1}, []int{0, 0, 1, 1, 1, 1, 1, 1}},
		{"a  ", whole("a  ", 2), zero, []int{0, 0, 1, 2, 2, 2}, []int{0, 0, 1, 2, 2, 2}},
		{"a  ", whole("a  ", 2), right, []int{1, 1, 1, 0, 0, 0}, []int{2, 2, 2, 0, 0, 0}},
		{"\u05D0 1", whole("\u05D0 1", 9), zero, []int{3, 3, 3, 2, 0, 0, 0}, []int{3, 3, 3, 2, 1, 1, 1}},
	} {
		for n, want := range x.ahead {
			placeOf(t, x.line, x.row, x.look, api.Caret{At: n - 1}, want)
		}
		for n, want := range x.back {
			placeOf(t, x.line, x.row, x.look, api.Caret{At: n - 1, Back: true}, want)
		}
	}
	for _, at := range []int{math.MinInt, math.MinInt + 1, -9} {
		placeOf(t, turned, whole(turned, 9), zero, api.Caret{At: at}, 0)
		placeOf(t, turned, api.Row{At: 1, Len: 4, Wide: 9}, zero, api.Caret{At: at}, 2)
		placeOf(t, turned, api.Row{At: 1, Len: 4, Wide: 9}, zero, api.Caret{At: at, Back: true}, 0)
	}
	for _, at := range []int{math.MaxInt, math.MaxInt - 1, 9} {
		placeOf(t, turned, whole(turned, 9), zero, api.Caret{At: at, Back: true}, 4)
		placeOf(t, turned, api.Row{At: 1, Len: 4, Wide: 9}, zero, api.Caret{At: at, Want: 7}, 2)
		placeOf(t, turned, api.Row{At: 1, Len: 4, Wide: 9}, zero, api.Caret{At: at, Back: true, Want: -3}, 0)
	}
}

// P15.3

// stopsOf holds Stops against want, and that against the model.
func stopsOf(t *testing.T, line string, r api.Row, look api.Look, want string) {
	t.Helper()
	if got := carets(modelOf(line, r, look).stops(line)); got != want {
		t.Errorf("the model says of %+q, %v, %v: %s, not %s", line, r, look, got, want)
	}
	if got := carets(row.Stops(line, r, look)); got != want {
		t.Errorf("Stops(%+q, %v, %v) = %s, not %s", line, r, look, got, want)
	}
}

func ended(r api.Row, end int8) api.Row {
	r.End = end
	return r
}

func TestStops(t *testing.T) {
	for _, x := range []struct {
		line string
		row  api.Row
		look api.Look
		open string // of a row behind which the line goes on
		want string
	}{
		{turned, whole(turned, 9), zero, "0 1b 5b 3 1 5 6b", "0 1b 5b 3 1 5 6"},
		{turned, whole(turned, 9), raw, "0 1 3 5 6b", "0 1 3 5 6"},
		{"", whole("", 9), zero, "0", "0"},
		{"abc", api.Row{At: 1, Wide: 9}, right, "1", "1"},
		{"abc", api.Row{At: 99, Len: 9, Wide: 9}, zero, "3", "3"},
		{"abc", whole("abc", 9), zero, "0 1 2 3b", "0 1 2 3"},
		{"abc", api.Row{At: 1, Len: 1, Wide: 9}, zero, "1 2b", "1 2"},
		// A base that is odd: the row's last edge is the left one.
		{"abc", whole("abc", 9), right, "0 1 2 3b", "0 3 1 2 3b"},
		{"abc", api.Row{At: 1, Len: 1, Wide: 9}, right, "1 2b", "1 2 2b"},
		{"\u05D0\u05D1", whole("\u05D0\u05D1", 9), zero, "4b 2 0", "4 2 0"},
		{"\u05D0\u05D1", whole("\u05D0\u05D1", 9), left, "4b 2 0", "4b 2 0 4"},
		{"\u05D01", whole("\u05D01", 9), zero, "2 2b 3b 0", "2 3 2b 3b 0"},
		{"a\u05D0", whole("a\u05D0", 9), zero, "0 1b 3b 1", "0 1b 3b 1 3"},
		{"a\u05D0b", whole("a\u05D0b", 9), zero, "0 1b 3b 1 3 4b", "0 1b 3b 1 3 4"},
		// Clusters that have no columns.
		{"a\u200B\u202Cb", whole("a\u200B\u202Cb", 9), zero, "0 1 4 7 8b", "0 1 4 7 8"},
		{"\u200B", whole("\u200B", 9), zero, "0 3b", "0 3"},
		{"\u200B", whole("\u200B", 9), right, "0 3b", "0 3"},
		{"ab\n", whole("ab\n", 9), zero, "0 1 2 3b", "0 1 2 3"},
		{"a  ", whole("a  ", 1), zero, "0 1 2 3b", "0 1 2 3"},
		{"\u05D0  ", whole("\u05D0  ", 1), zero, "2 3 4b 0", "2 3 4 0"},
		{"\u05D0  ", whole("\u05D0  ", 2), zero, "3 4b 2 0", "3 4 2 0"},
		{"a\u0301\u4E16", whole("a\u0301\u4E16", 9), zero, "0 3 6b", "0 3 6"},
	} {
		for _, end := range []int8{api.EndWord, api.EndCut} {
			stopsOf(t, x.line, ended(x.row, end), x.look, x.open)
			check(t, x.line, ended(x.row, end), x.look)
		}
		for _, end := range []int8{api.EndText, api.EndLine, -1, 4, 5, 127, -128} {
			stopsOf(t, x.line, ended(x.row, end), x.look, x.want)
			check(t, x.line, ended(x.row, end), x.look)
		}
	}
}

// P15.4

func TestHit(t *testing.T) {
	for _, x := range []struct {
		line string
		row  api.Row
		look api.Look
		want string // for each edge from one ahead of the row to one behind it
	}{
		{turned, whole(turned, 9), zero, "0 0 1b 3 1 6 6"},
		{turned, ended(whole(turned, 9), api.EndWord), zero, "0 0 1b 3 1 6b 6b"},
		{"", whole("", 9), zero, "0 0 0"},
		{"abc", api.Row{At: 2, Wide: 9, End: api.EndCut}, zero, "2 2 2"},
		{"\u4E16\u4E00", whole("\u4E16\u4E00", 9), zero, "0 0 0 3 3 6 6"},
		{"\u4E16\u4E00", ended(whole("\u4E16\u4E00", 9), api.EndCut), zero, "0 0 0 3 3 6b 6b"},
		{"\u05D0\u4E16", whole("\u05D0\u4E16", 9), zero, "2 2 2 2b 0 0"},
		{"a\tb", whole("a\tb", 9), api.Look{Tab: 4}, "0 0 1 1 2 2 3 3"},
		{"a\xFF", whole("a\xFF", 9), zero, "0 0 1 1 1 2 2 2"},
		{"\u05D0\t\u05D1", whole("\u05D0\t\u05D1", 99), api.Look{Tab: 4}, "5 5 3 3 2 2 0 0"},
		{"a\u200B\u202C", whole("a\u200B\u202C", 9), zero, "0 0 1 1"},
		{"a  ", whole("a  ", 1), zero, "0 0 1 1"},
		{"ab", whole("ab", 9), right, "0 0 1 2b 2b"},
		{"ab", ended(whole("ab", 9), api.EndWord), right, "0 0 1 2b 2b"},
	} {
		m := modelOf(x.line, x.row, x.look)
		var got, said []api.Caret
		for edge := -1; edge <= m.columns+1; edge++ {
			got, said = append(got, row.Hit(x.line, x.row, x.look, edge)), append(said, m.hit(x.line, m.stops(x.line), edge))
		}
		if carets(got) != x.want || carets(said) != x.want {
			t.Errorf("Hit(%+q, %v, %v) = %s, by the model %s, not %s", x.line, x.row, x.look, carets(got), carets(said), x.want)
		}
	}
	for x, want := range map[int]int{math.MinInt: 0, math.MinInt + 1: 0, math.MinInt + 3: 0, -1: 0, 99: 6, math.MaxInt - 1: 6, math.MaxInt: 6} {
		if got := row.Hit(turned, whole(turned, 9), zero, x); got != (api.Caret{At: want, Want: -1}) {
			t.Errorf("Hit(.., %d) = %v", x, got)
		}
	}
}

// parts are one character, or bad byte, for each thing that the chapter tells apart.
var parts = []string{"a", " ", "\t", "\u4E00", "\u202E", "\xFF", "\u0301", "(", "\u05D0", "\u0628", "1", "\n"}

// lines hands out s and all lines that have up to n of the parts behind it.
func lines(s string, n int, f func(s string)) {
	f(s)
	if n == 0 {
		return
	}
	for _, part := range parts {
		lines(s+part, n-1, f)
	}
}

func TestAllShortLines(t *testing.T) {
	looks := []api.Look{{}, {Want: api.WantRight, Join: true, Tab: 3}, {Want: api.WantLeft, Tab: 2}, {Raw: true, Join: true}}
	k := 0
	lines("", 3, func(s string) {
		for _, look := range looks {
			if !t.Failed() {
				k++
				check(t, s, api.Row{Len: len(s), Wide: k % 5, End: int8(k % 4)}, look)
				check(t, s, api.Row{At: k % 7, Len: k % 11, Wide: k % 3, End: int8(k % 5)}, look)
			}
		}
	})
}

// Every character: the first ones, and one in some hundred, are held against the model.
func TestEveryCharacter(t *testing.T) {
	for r := rune(0); r <= 0x10FFFF && !t.Failed(); r++ {
		c := string([]rune{r})
		if r < 0x2100 || r%797 == 0 || r > 0xFE00 && r < 0x10000 {
			check(t, c, whole(c, 3), joint)
			check(t, "\u05D0"+c+"\u0628 "+c, whole("\u05D0"+c+"\u0628 "+c, 4), api.Look{Join: true, Wide: true})
		}
	}
}

func TestTheEndsOfClasses(t *testing.T) {
	for table := int8(api.TabKind); table <= api.TabBreak; table++ {
		for value := range 30 {
			for _, span := range class.Spans(table, value) {
				for _, c := range []string{string([]rune{span.From}), string([]rune{span.To})} {
					check(t, c+c, whole(c+c, 2), right)
					check(t, c+"\u05D0", whole(c+"\u05D0", 9), raw)
				}
			}
		}
	}
}
