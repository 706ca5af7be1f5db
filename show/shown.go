package show

import (
	"slices"
	"strings"

	"shuttle/api"
	"shuttle/class"
	"shuttle/scan"
)

// usualTab is the columns from one tab stop to the next, if the look tells none that may be.
const usualTab = 8

// Characters that the chapter names.
const (
	lastLowControl     = 0x7F
	zeroWidthNonJoiner = 0x200C
	zeroWidthJoiner    = 0x200D
	lineSeparator      = 0x2028
	paragraphSeparator = 0x2029
	dottedCircle       = 0x25CC
	pictureSelector    = 0xFE0F
	firstRegional      = 0x1F1E6
	lastRegional       = 0x1F1FF
)

// ofCluster tells what is shown of c, which is one cluster or empty, at the column col, and how many columns that takes.
func ofCluster(c string, col int, l api.Look) (string, int) {
	x, size := scan.Next(c)
	switch {
	case size == 0:
		return "", 0
	case size == 1 && x == api.Bad:
		return angled(rune(c[0]), 2)
	}
	switch class.Kind(x) {
	case api.KControl:
		if x <= lastLowControl {
			return ofLowControl(c, col, l)
		}
		// The controls above are shown as signs are.
		fallthrough
	case api.KFormat:
		if x != zeroWidthNonJoiner && x != zeroWidthJoiner {
			return ofSign(x, l)
		}
		// These two belong to what stands ahead, as marks do, and are shown alike, if nothing does.
		fallthrough
	case api.KMark:
		return onCircle(c), 1
	case api.KSpace:
		if x == lineSeparator || x == paragraphSeparator {
			return ofSign(x, l)
		}
	case api.KSymbol:
		if y, _ := scan.Next(c[size:]); isWidened(x, y, l) {
			return c, 2
		}
	}
	wide := class.Wide(x, l.Wide)
	if wide == 0 {
		return "", 0
	}
	return c, wide
}

// ofLowControl tells what is shown of a cluster that is a control up to 7F, or the two that end a line.
func ofLowControl(c string, col int, l api.Look) (string, int) {
	switch c {
	case "\t":
		stop := tab(l)
		wide := stop - max(col, 0)%stop
		return strings.Repeat(" ", wide), wide
	case "\n", "\r\n":
		return "", 0
	}
	return underCaret(rune(c[0])), 2
}

// tab tells the columns from one tab stop to the next.
func tab(l api.Look) int {
	if l.Tab < 1 || l.Tab > api.MaxTab {
		return usualTab
	}
	return l.Tab
}

// underCaret is what is shown of a control up to 7F: a caret, and the character that it is but for one bit, as @ is 0 and ? is 7F.
func underCaret(control rune) string {
	control ^= 0x40
	return string([]rune{'^', control})
}

// ofSign tells what is shown of a character that only does something.
func ofSign(x rune, l api.Look) (string, int) {
	if !l.Raw {
		return "", 0
	}
	return angled(x, 4)
}

// angled is the digits of n, at least so many, between < and >; and how many columns that takes.
func angled(n rune, least int) (string, int) {
	const digits = "0123456789abcdef"
	// From the last digit on, as they come.
	laid := []rune{'>'}
	for ; n > 0 || least > 0; least-- {
		laid = append(laid, rune(digits[n&0xF]))
		n >>= 4
	}
	laid = append(laid, '<')
	slices.Reverse(laid)
	return string(laid), len(laid)
}

// onCircle is the cluster c, which begins with a mark or such, with a letter's place shown ahead of it; a full one has no room for that, and so has its last character cut off.
func onCircle(c string) string {
	laid := append([]rune{dottedCircle}, scan.Runes(c)...)
	return string(laid[:min(len(laid), api.MaxRunes)])
}

// isWidened tells whether the symbol x takes two columns as y stands right behind it in its cluster.
func isWidened(x, y rune, l api.Look) bool {
	return isRegional(x) && isRegional(y) || y == pictureSelector && class.Wide(x, l.Wide) == 1
}

func isRegional(r rune) bool { return firstRegional <= r && r <= lastRegional }
