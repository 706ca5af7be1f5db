package fold_test

import (
	"strings"
	"testing"

	"shuttle/fold"
	"shuttle/norm"
	"shuttle/scan"
)

// form is what texts are made into.
type form struct {
	name string
	f    func(s string) string
	once bool // it changes nothing, once more
}

// made is what the package makes texts into.
var made = []form{
	{"Lower", fold.Lower, true}, {"Upper", fold.Upper, true}, {"Title", fold.Title, false}, {"Swap", fold.Swap, false}, {"Fold", fold.Fold, true},
}

// P5.5

func TestAtOnce(t *testing.T) {
	all(func(s string) {
		for _, x := range made {
			once := x.f(s)
			if again := x.f(once); x.once && again != once {
				t.Errorf("%s of %[1]s(%+q) = %+q, not %+q", x.name, s, again, once)
			}
		}
	})
}

func TestSameAsWhatItBecomes(t *testing.T) {
	forms := append([]form{{"Apart", norm.Apart, true}, {"Together", norm.Together, true}}, made...)
	all(func(s string) {
		for _, x := range forms {
			// Most are what they were; that each is the same as itself is asked elsewhere.
			if got := x.f(s); got != s && (!fold.Same(s, got) || !fold.Same(got, s)) {
				t.Errorf("%+q is not the same as its %s %+q", s, x.name, got)
			}
		}
	})
}

// Of a text and itself, from both sides, and of what goes on from one to the next: so it is just if texts are the same where their forms are.
func TestSameIsOneOfAKind(t *testing.T) {
	var l []string
	texts("", []string{"s", "S", "\u00DF", "\u03A3", "\u03C2", "\u00C9", "\u0301", "\xFF"}, 3, func(s string) { l = append(l, s) })
	forms := make([]string, len(l))
	for i, s := range l {
		forms[i] = foldOf(s)
	}
	for i, a := range l {
		for j, b := range l {
			if got := fold.Same(a, b); got != (forms[i] == forms[j]) {
				t.Errorf("Same(%+q, %+q) = %v", a, b, got)
			}
		}
	}
}

// P5.6

// badBytes is the bad bytes of s, one behind the other.
func badBytes(s string) string {
	var l []byte
	for _, at := range scan.Bad(s) {
		l = append(l, s[at])
	}
	return string(l)
}

func TestBadBytesStay(t *testing.T) {
	check := func(s string) {
		want := badBytes(s)
		for _, x := range made {
			if got := badBytes(x.f(s)); got != want {
				t.Errorf("%s(%+q) has the bad bytes %x, not %x", x.name, s, got, want)
			}
		}
	}
	all(check)
	texts("", []string{"A", "\u00DF", "\u03A3", "\u0301", "\u0178", "\xC3", "\x9F", "\xE1", "\xBA"}, 4, check)
	for b := range 0x100 {
		check(string([]byte{byte(b)}))
		check("A" + string([]byte{byte(b)}) + "\u03A3")
	}
}

func TestLettersAtOnce(t *testing.T) {
	asked(func(r rune) {
		small := fold.Small(r)
		if got := fold.Small(small); got != small {
			t.Errorf("Small of Small(%x) = %x, not %x", r, got, small)
		}
		if got := fold.Great(small); small != r && got != r {
			t.Errorf("Great of Small(%x) = %x", r, got)
		}
		great := fold.Great(r)
		if got := fold.Great(great); got != great {
			t.Errorf("Great of Great(%x) = %x, not %x", r, got, great)
		}
	})
}

// R2

func TestManyAskAtOneTime(t *testing.T) {
	s := strings.Join(kinds, "")
	forms := func() string {
		l := ""
		for _, x := range made {
			l += x.f(s)
		}
		return l
	}
	want := forms()
	done := make(chan string)
	for range 4 {
		go func() {
			for range 100 {
				forms()
			}
			done <- forms()
		}()
	}
	for range 4 {
		if got := <-done; got != want {
			t.Errorf("%+q, not %+q", got, want)
		}
	}
}
