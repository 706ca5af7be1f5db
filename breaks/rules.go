package breaks

import "shuttle/api"

// rule says what may be done behind a cluster, if it applies there.
type rule struct {
	applies func(n neighbourhood) bool
	says    int8
}

// rules are the chapter's, in its order: each one leans on those ahead of it not having applied, and the last one always applies.
func rules() []rule {
	return []rule{
		{func(n neighbourhood) bool { return n.a == api.BreakMust }, api.Must},
		{isTrailed, api.MayNot},
		{func(n neighbourhood) bool { return n.solid == api.BreakZero }, api.May},
		{isJoined, api.MayNot},
		{isGlued, api.MayNot},
		{isEnclosed, api.MayNot},
		{neighbourhood.spaced, api.May},
		{func(n neighbourhood) bool { return n.b == api.BreakHyphen }, api.MayNot},
		{func(n neighbourhood) bool { return n.a == api.BreakHyphen && n.b == api.BreakDigit }, api.MayNot},
		{func(n neighbourhood) bool { return n.a == api.BreakHyphen }, api.May},
		{func(n neighbourhood) bool { return n.a == api.BreakIdeo || n.b == api.BreakIdeo }, api.May},
		{func(neighbourhood) bool { return true }, api.MayNot},
	}
}

// isTrailed tells whether b stays in the line of what it follows, or there is none: behind the last cluster, too, a line may not be broken, but must, if at all.
func isTrailed(n neighbourhood) bool {
	switch n.b {
	case nothing, api.BreakMust, api.BreakSpace, api.BreakZero:
		return true
	}
	return false
}

// isJoined tells whether one of the two joins the other one.
func isJoined(n neighbourhood) bool {
	return n.a == api.BreakJoin || n.b == api.BreakJoin
}

// isGlued tells whether one of the two holds the other one; behind a Space or a Hyphen nothing is held by what follows.
func isGlued(n neighbourhood) bool {
	return n.a == api.BreakGlue || n.b == api.BreakGlue && !n.spaced() && n.a != api.BreakHyphen
}

// isEnclosed tells whether b closes, or parts the digits of a number, or stands behind what opens, be there Spaces between or not.
func isEnclosed(n neighbourhood) bool {
	return n.b == api.BreakClose || n.b == api.BreakInfix && !n.spaced() || n.solid == api.BreakOpen
}
