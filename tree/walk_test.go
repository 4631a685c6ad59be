package tree

import (
	"fmt"
	"slices"
	"testing"

	"superpose/api"
)

func TestSides(t *testing.T) {
	first, other := Sides(yes(f(0), v(1)), false)
	if !Same(first, f(0)) || !Same(other, v(1)) {
		t.Errorf("%v %v", first, other)
	}
	first, other = Sides(yes(f(0), v(1)), true)
	if !Same(first, v(1)) || !Same(other, f(0)) {
		t.Errorf("turned: %v %v", first, other)
	}
}

func TestPlacesWithWhatStandsThere(t *testing.T) {
	x := f(3, f(2, v(1)), f(4, f(0), v(2), f(2, f(1))))
	var found [][]int
	for place, part := range Places(x) {
		if !Same(part, Part(x, place)) {
			t.Errorf("%v: %v", place, part)
		}
		found = append(found, place)
	}
	// Each is new memory: all are as they were once all are found.
	if want := "[[] [0] [0 0] [1] [1 0] [1 1] [1 2] [1 2 0]]"; fmt.Sprint(found) != want {
		t.Errorf("%v, not %v", found, want)
	}
	for n := range found {
		k := 0
		for range Places(x) {
			if k == n {
				break
			}
			k++
		}
		if k != n {
			t.Errorf("%d, not %d", k, n)
		}
	}
}

func TestGreatest(t *testing.T) {
	for _, c := range []struct {
		c    api.Clause
		want int
	}{
		{nil, 0},
		{api.Clause{yes(f(0), f(2, f(1)))}, 0},
		{api.Clause{yes(f(0), v(3))}, 3},
		{api.Clause{yes(v(7), v(3)), no(f(3, v(2), f(2, v(9))), f(0)), no(v(8), v(1))}, 9},
	} {
		if n := Greatest(c.c); n != c.want {
			t.Errorf("%v: %d", c.c, n)
		}
	}
}

func TestAlikeAndCovers(t *testing.T) {
	for _, c := range []struct {
		a, b                 api.Term
		alike, covers, turns bool // turns: covers, b and a
	}{
		{v(1), v(2), true, true, true},
		{v(1), f(0), true, true, false},
		{f(0), f(0), true, true, true},
		{f(0), f(1), false, false, false},
		{f(0), f(2, f(0)), false, false, false},
		{f(2, v(1)), f(2, f(0)), true, true, false},
		{f(3, v(1), f(0)), f(3, f(1), v(1)), true, false, false},
		{f(3, v(1), f(0)), f(3, f(1), f(0)), true, true, false},
		{f(3, v(1), f(0)), f(3, v(2), f(1)), false, false, false},
		// What a variable is elsewhere is not asked.
		{f(3, v(1), v(1)), f(3, f(0), f(1)), true, true, false},
	} {
		if Alike(c.a, c.b) != c.alike || Alike(c.b, c.a) != c.alike {
			t.Errorf("%v and %v: alike", c.a, c.b)
		}
		if Covers(c.a, c.b) != c.covers || Covers(c.b, c.a) != c.turns {
			t.Errorf("%v and %v: covers", c.a, c.b)
		}
	}
}

func TestCopyClauseIsNewMemory(t *testing.T) {
	shared := f(2, v(1))
	was := api.Clause{yes(shared, v(2)), no(f(0), shared)}
	made := CopyClause(was)
	if !slices.EqualFunc(was, made, func(k, l api.Literal) bool { return k.Yes == l.Yes && Same(k.A, l.A) && Same(k.B, l.B) }) {
		t.Errorf("%v, not %v", made, was)
	}
	made[0].A.Args[0], made[1].Yes = v(7), true
	if !Same(was[0].A, f(2, v(1))) || !Same(made[1].B, f(2, v(1))) || was[1].Yes {
		t.Errorf("%v %v", was, made)
	}
}
