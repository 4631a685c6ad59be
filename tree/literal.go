package tree

import (
	"slices"

	"superpose/api"
)

// SameSides: have two literals the same sides, turned or not?
func SameSides(k, l api.Literal) bool {
	return Same(k.A, l.A) && Same(k.B, l.B) || Same(k.A, l.B) && Same(k.B, l.A)
}

// Needed: the literals without those that can't be so, and those that one ahead is, too.
func Needed(c api.Clause) api.Clause {
	var left api.Clause
	for _, l := range c {
		again := slices.ContainsFunc(left, func(k api.Literal) bool { return k.Yes == l.Yes && SameSides(k, l) })
		if !again && (l.Yes || !Same(l.A, l.B)) {
			left = append(left, l)
		}
	}
	return left
}
