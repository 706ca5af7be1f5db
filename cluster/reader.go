package cluster

import "shuttle/scan"

// reader takes the characters of one cluster.
type reader struct {
	text  string
	at    int // the end of what is taken
	taken int
}

// take takes the next character, if it has one of the wanted roles and the cluster has room; it tells the role, and none, if nothing is taken.
func (in *reader) take(wanted role) role {
	r, size := scan.Next(in.text[in.at:])
	if size == 0 || in.taken == maxRunes {
		return none
	}
	got := roleOf(r, size) & wanted
	if got != none {
		in.at += size
		in.taken++
	}
	return got
}

// takeSyllable takes the parts that make a syllable with x, which is one and is taken.
func (in *reader) takeSyllable(x role) {
	switch x {
	case vowel, open:
		goto behindVowel
	case final, closed:
		goto behindFinal
	}

behindLead:
	switch in.take(lead | vowel | open | closed) {
	case lead:
		goto behindLead
	case vowel, open:
		goto behindVowel
	case closed:
		goto behindFinal
	}
	return
behindVowel:
	switch in.take(vowel | final) {
	case vowel:
		goto behindVowel
	case final:
		goto behindFinal
	}
	return
behindFinal:
	if in.take(final) != none {
		goto behindFinal
	}
}
