package tree

import (
	"testing"

	"superpose/api"
)

func yes(a, b api.Term) api.Literal { return api.Literal{Yes: true, A: a, B: b} }

func no(a, b api.Term) api.Literal { return api.Literal{A: a, B: b} }

func TestSameSides(t *testing.T) {
	for _, c := range []struct {
		k, l api.Literal
		want bool
	}{
		{yes(f(0), v(1)), yes(f(0), v(1)), true},
		{yes(f(0), v(1)), yes(v(1), f(0)), true},
		{yes(f(0), v(1)), no(v(1), f(0)), true},
		{yes(f(0), f(0)), yes(f(0), v(1)), false},
		{yes(f(0), v(1)), yes(f(0), f(0)), false},
		{yes(f(0), v(1)), yes(v(1), v(1)), false},
		{yes(f(0), v(1)), yes(f(1), v(2)), false},
	} {
		if SameSides(c.k, c.l) != c.want {
			t.Errorf("%v and %v", c.k, c.l)
		}
	}
}

func TestNeeded(t *testing.T) {
	same, other := yes(f(0), v(1)), yes(v(1), f(0))
	var many, once api.Clause
	for n := range 2 * api.MaxLiterals {
		many = append(many, no(v(n), v(n)), yes(v(n), f(0)), yes(f(0), v(n)))
		once = append(once, yes(v(n), f(0)))
	}
	for i, c := range []struct{ c, want api.Clause }{
		{nil, nil},
		{api.Clause{same}, api.Clause{same}},
		{api.Clause{same, other}, api.Clause{same}},
		{api.Clause{other, yes(f(1), f(0)), same, same}, api.Clause{other, yes(f(1), f(0))}},
		{api.Clause{same, no(f(0), v(1))}, api.Clause{same, no(f(0), v(1))}},
		{api.Clause{yes(f(0), f(0)), no(f(0), f(0))}, api.Clause{yes(f(0), f(0))}},
		{api.Clause{no(f(0), f(0)), yes(f(0), f(0))}, api.Clause{yes(f(0), f(0))}},
		// However many there are.
		{many, once},
	} {
		left := Needed(c.c)
		if len(left) != len(c.want) {
			t.Errorf("%d: %v, not %v", i, left, c.want)
			continue
		}
		for n, l := range left {
			if l.Yes != c.want[n].Yes || !Same(l.A, c.want[n].A) || !Same(l.B, c.want[n].B) {
				t.Errorf("%d: %v, not %v", i, left, c.want)
			}
		}
	}
}
