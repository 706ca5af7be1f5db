// Package scan takes any bytes as characters; a byte that belongs to none stands for itself (layer 1: see shared/doc/01-scan.md).
package scan

import (
	"iter"
	"strings"
	"unicode/utf8"
)

// badNumber stands for a bad byte; fffdText are the bytes of the character that has this number.
const (
	badNumber = '\uFFFD'
	fffdText  = "\uFFFD"
)

// isBad tells whether the number r, with which s begins, stands for a bad byte: the character of that number has bytes of its own.
func isBad(s string, r rune) bool {
	return r == badNumber && !strings.HasPrefix(s, fffdText)
}

// Next tells the first number of s and how many bytes it has (P1.1).
func Next(s string) (rune, int) { return utf8.DecodeRuneInString(s) }

// Last tells the last number of s and how many bytes it has (P1.1).
func Last(s string) (rune, int) { return utf8.DecodeLastRuneInString(s) }

// Whole tells whether s is neither empty nor a beginning (P1.2).
func Whole(s string) bool { return utf8.FullRuneInString(s) }

// Valid tells whether no byte of s is bad (P1.3).
func Valid(s string) bool {
	for at, r := range s {
		if isBad(s[at:], r) {
			return false
		}
	}
	return true
}

// Count tells how many characters and bad bytes s has (P1.3).
func Count(s string) int {
	n := 0
	for range s {
		n++
	}
	return n
}

// Bad tells the places of the bad bytes of s, rising (P1.3).
func Bad(s string) []int {
	var places []int
	for at, r := range s {
		if isBad(s[at:], r) {
			places = append(places, at)
		}
	}
	return places
}

// Runes tells the numbers of s in order (P1.4).
func Runes(s string) []rune { return []rune(s) }

// Text tells the bytes of the numbers of l, one behind the other (P1.4).
func Text(l []rune) string { return string(l) }

// Clean is s with the character FFFD in place of each bad byte (P1.4).
func Clean(s string) string { return Text(Runes(s)) }

// All goes over the places at which characters and bad bytes of s begin, from the beginning (P1.5).
func All(s string) iter.Seq2[int, rune] {
	return func(yield func(int, rune) bool) {
		for at, r := range s {
			if !yield(at, r) {
				return
			}
		}
	}
}

// Back goes over the same places as All, from the end (P1.5).
func Back(s string) iter.Seq2[int, rune] {
	return func(yield func(int, rune) bool) {
		for at := len(s); at > 0; {
			r, n := Last(s[:at])
			at -= n
			if !yield(at, r) {
				return
			}
		}
	}
}

// Reader takes bytes in pieces; what it holds is empty or a beginning.
type Reader struct {
	held string
}

// New makes a Reader that holds nothing (P1.6).
func New() *Reader { return &Reader{} }

// Feed takes one more piece and tells the numbers that no further byte can change (P1.6).
func (r *Reader) Feed(b []byte) []rune {
	if r == nil {
		return nil
	}
	text := r.held + string(b)
	left := len(text)
	var told []rune
walk:
	for at, c := range text {
		switch {
		case c == badNumber && !Whole(text[at:]):
			left = at
			break walk
		default:
			told = append(told, c)
		}
	}
	// A copy, as a part of text would keep the whole of it.
	r.held = strings.Clone(text[left:])
	return told
}

// End tells each byte that is held as bad, and then holds none (P1.6).
func (r *Reader) End() []rune {
	if r == nil {
		return nil
	}
	// No character lies in a beginning, so that each of its bytes is told by itself.
	told := Runes(r.held)
	r.held = ""
	return told
}

// Held tells how many bytes are held (P1.6).
func (r *Reader) Held() int {
	if r == nil {
		return 0
	}
	return len(r.held)
}
