package cluster

import "shuttle/scan"

// isCertain tells whether at, where a character or bad byte begins, is a border by what stands right ahead of it and right behind it alone.
func isCertain(s string, at int) bool {
	if at == 0 {
		return true
	}
	z, ahead := scan.Last(s[:at])
	y, behind := scan.Next(s[at:])
	// Two characters that are parted by themselves are so everywhere, but for a joiner and a picture: there it hangs on what their cluster begins with.
	if z == zeroWidthJoiner && roleOf(y, behind) == picture {
		return false
	}
	return Next(s[at-ahead:at+behind]) == ahead
}

// certain tells the last border up to the byte at that is certain.
func certain(s string, at int) int {
	for from := range scan.Back(s[:endOfCharacter(s, at)]) {
		if isCertain(s, from) {
			return from
		}
	}
	return 0
}

// endOfCharacter tells the end of the character or bad byte that has the byte at.
func endOfCharacter(s string, at int) int {
	const longest = 4
	// No character lies over another one: the first that has the byte is the one that s is gone through by.
	for from := max(at-longest+1, 0); from < at; from++ {
		if _, size := scan.Next(s[from:]); from+size > at {
			return from + size
		}
	}
	_, size := scan.Next(s[at:])
	return at + size
}
