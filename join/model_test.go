package join_test

import (
	"strconv"
	"strings"

	"shuttle/api"
	"shuttle/class"
)

// The model is the chapter's table and sentences, as they stand there: of each rune it is asked anew what stands around it. Of the program it asks class.Join alone, as the chapter does.

// theShapes is the chapter's table: letters, and their first shapes.
const theShapes = `
621 622 623 624 625 | FE80 FE81 FE83 FE85 FE87
626 627 628 629 62A 62B | FE89 FE8D FE8F FE93 FE95 FE99
62C 62D 62E 62F 630 631 632 | FE9D FEA1 FEA5 FEA9 FEAB FEAD FEAF
633 634 635 636 637 638 639 63A | FEB1 FEB5 FEB9 FEBD FEC1 FEC5 FEC9 FECD
641 642 643 644 645 646 647 | FED1 FED5 FED9 FEDD FEE1 FEE5 FEE9
648 649 64A | FEED FEEF FEF1`

// theLetters is what the chapter says of shapes of two letters.
const theLetters = "FEF5 FEF6 622 FEF7 FEF8 623 FEF9 FEFA 625 FEFB FEFC 627"

// theForms are the forms in the order in which a letter's shapes stand.
var theForms = []int8{api.FormAlone, api.FormLast, api.FormFirst, api.FormMiddle}

func numbers(text string) []rune {
	var l []rune
	for _, word := range strings.Fields(text) {
		n, err := strconv.ParseInt(word, 16, 32)
		if err != nil {
			panic(err)
		}
		l = append(l, rune(n))
	}
	return l
}

// shapesOf are the shapes of each letter of the table by their forms, and of each shape the letter.
func shapesOf() (map[rune]map[int8]rune, map[rune][]rune) {
	shapes, plain := map[rune]map[int8]rune{}, map[rune][]rune{}
	for _, line := range strings.Split(strings.TrimSpace(theShapes), "\n") {
		ahead, behind, _ := strings.Cut(line, "|")
		firsts := numbers(behind)
		for n, letter := range numbers(ahead) {
			count := map[int8]int{api.JoinBoth: 4, api.JoinRight: 2, api.JoinNone: 1}[class.Join(letter)]
			shapes[letter] = map[int8]rune{}
			for n2, form := range theForms[:count] {
				shape := firsts[n] + rune(n2)
				shapes[letter][form] = shape
				plain[shape] = []rune{letter}
			}
		}
	}
	two := numbers(theLetters)
	for ; len(two) > 0; two = two[3:] {
		plain[two[0]] = []rune{0x644, two[2]}
		plain[two[1]] = []rune{0x644, two[2]}
	}
	return shapes, plain
}

var shapes, plain = shapesOf()

func joinsAs(r rune, joins ...int8) bool {
	for _, join := range joins {
		if class.Join(r) == join {
			return true
		}
	}
	return false
}

// neighbour is the nearest rune from the place at on, by steps of that size, that is no mark; one of JoinNone, if there is none.
func neighbour(l []rune, at, step int) rune {
	for at += step; at >= 0 && at < len(l); at += step {
		if !joinsAs(l[at], api.JoinThrough) {
			return l[at]
		}
	}
	return 'A'
}

func joinedAhead(l []rune, at int) bool {
	return joinsAs(neighbour(l, at, -1), api.JoinBoth, api.JoinCause)
}

func joinedBehind(l []rune, at int) bool {
	return joinsAs(l[at], api.JoinBoth) && joinsAs(neighbour(l, at, 1), api.JoinRight, api.JoinBoth, api.JoinCause)
}

func formOf(l []rune, at int) int8 {
	if !joinsAs(l[at], api.JoinRight, api.JoinBoth) {
		return api.FormAlone
	}
	switch ahead, behind := joinedAhead(l, at), joinedBehind(l, at); {
	case ahead && behind:
		return api.FormMiddle
	case ahead:
		return api.FormLast
	case behind:
		return api.FormFirst
	}
	return api.FormAlone
}

func formsOf(l []rune) []int8 {
	var forms []int8
	for at := range l {
		forms = append(forms, formOf(l, at))
	}
	return forms
}

func shapeOf(r rune, form int8) rune {
	byForm := shapes[r]
	if byForm == nil {
		return r
	}
	if form < api.FormAlone || form > api.FormLast {
		form = api.FormAlone
	}
	// Each form that a letter has not goes to the one of which the chapter says so; all end at FormAlone.
	instead := map[int8]int8{api.FormMiddle: api.FormLast, api.FormFirst: api.FormAlone, api.FormLast: api.FormAlone}
	for byForm[form] == 0 {
		form = instead[form]
	}
	return byForm[form]
}

func shapedOf(l []rune) []rune {
	var shaped []rune
	for at, form := range formsOf(l) {
		shaped = append(shaped, shapeOf(l[at], form))
	}
	return shaped
}

func plainOf(r rune) []rune {
	if letters := plain[r]; letters != nil {
		return letters
	}
	return []rune{r}
}
