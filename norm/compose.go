package norm

import "shuttle/class"

// pair is two that may be one together.
type pair struct {
	first, second rune
}

// composer puts pieces together, one behind the other.
type composer struct {
	made       []piece
	hasStarter bool
	starter    int           // the place in made of the last starter
	letters    map[pair]rune // what letters and marks are together; made when it is first asked
}

// add puts p behind what is made, or into its last starter.
func (c *composer) add(p piece) {
	if c.reaches(p) {
		if both := c.pair(c.made[c.starter].r, p.r); both != 0 {
			c.made[c.starter].r = both
			return
		}
	}
	if p.number == 0 {
		c.hasStarter, c.starter = true, len(c.made)
	}
	c.made = append(c.made, p)
}

// reaches tells whether there is a starter and nothing between keeps p from it.
func (c *composer) reaches(p piece) bool {
	if !c.hasStarter {
		return false
	}
	last := len(c.made) - 1
	return last == c.starter || c.made[last].number < p.number
}

// pair tells what a and b are together; 0, if they are no pair.
func (c *composer) pair(a, b rune) rune {
	// Most of what is asked is two starters, which are no letter and mark: these do without the map.
	if class.Mark(b) == 0 {
		return syllable(a, b)
	}
	if c.letters == nil {
		c.letters = lettersWithMarks()
	}
	return c.letters[pair{a, b}]
}

// lettersWithMarks tells, of each letter and mark that are a pair, what they are together.
func lettersWithMarks() map[pair]rune {
	const pairs = 255
	together := make(map[pair]rune, pairs)
	// From the first to the last letter of each script that is a pair.
	for _, block := range [...][2]rune{{0x00C0, 0x017E}, {0x0386, 0x03CE}, {0x0401, 0x045E}, {0x1EA4, 0x1ED3}, {0x304C, 0x30DD}} {
		for r := block[0]; r <= block[1]; r++ {
			if first, second := parts(r); second != 0 {
				together[pair{first, second}] = r
			}
		}
	}
	return together
}
