package term

import (
	"spandrel/api"
	"spandrel/level"
)

// budget is what a right term may still have: so many nodes.
type budget struct{ nodes int }

// Right says whether a term is right.
func Right(t api.Term) bool {
	b := &budget{api.MaxNodes}
	return b.right(t, 1)
}

// right says so of a term so deep within; it ends ahead of what is too deep or too much, for a term may be of any size.
func (b *budget) right(t api.Term, deep int) bool {
	b.nodes--
	if b.nodes < 0 || deep > api.MaxDeep || !ofKind(t) {
		return false
	}
	for _, kid := range t.Kids {
		if !b.right(kid, deep+1) {
			return false
		}
	}
	return true
}

// ofKind says whether a node has what its kind has, and what it has is right, its kids left aside.
func ofKind(t api.Term) bool {
	if !known(t.Kind) {
		return false
	}
	k := kinds[t.Kind]
	return number(t.Num, k.num) && number(t.At, k.at) && levels(t.Levels, k.levels) && len(t.Kids) == kids(t)
}

// number says whether a Num or At is right, given whether the kind has it.
func number(n int, has bool) bool {
	return n == 0 || has && n > 0 && n <= api.MaxNum
}

// levels says whether levels are right, as many as the kind has.
func levels(l []api.Level, few int) bool {
	switch few {
	case noLevels:
		return len(l) == 0
	case oneLevel:
		if len(l) != 1 {
			return false
		}
	case ownLevels:
		if len(l) > api.MaxVars {
			return false
		}
	case recLevels:
		if len(l) > api.MaxVars+2 {
			return false
		}
	}
	for _, one := range l {
		if !level.Right(one, api.MaxVars+1) {
			return false
		}
	}
	return true
}

// kids is how many kids a term of a known kind has.
func kids(t api.Term) int {
	if n := kinds[t.Kind].kids; n != atKids {
		return n
	}
	return t.At + 2
}
