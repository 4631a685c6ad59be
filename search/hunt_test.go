package search

import (
	"slices"
	"testing"

	"superpose/api"
	"superpose/clause"
)

func TestFits(t *testing.T) {
	for _, c := range []struct {
		c, d string
		want bool
	}{
		{"$false", "$false", true},
		{"$false", "f0 = f1", true},
		{"f0 = f1", "$false", false},
		{"f0 = f1", "f0 = f1", true},
		{"f0 = f1", "f1 = f0", true},
		{"f0 = f1", "f0 != f1", false},
		{"X1 = f1", "f1 = f0", true},
		{"X1 = f1", "f0 = f0", false},
		{"f0 = f1", "X1 = f1", false},
		{"X1 = X1", "f0 = f1", false},
		{"X1 = X2", "f0 = f1", true},
		{"f3(X1,X1) = X2", "f3(f0,f1) = f0", false},
		{"f3(X1,X1) = X2", "f3(X2,X2) = X1", true},
		{"f3(X1,X2) = X1", "f3(f2(X1),f1) = f2(X1)", true},
		{"f3(X1,X2) = X1", "f3(f2(X1),f1) = f2(X2)", false},
		// Each literal another one, whichever is tried first.
		{"X1 = f0", "f1 != f0 | f1 = f0", true},
		{"X1 = f0 | X2 = f0", "f1 = f0", false},
		{"X1 = f0 | X2 = f0", "f1 = f0 | f2(X1) = f0", true},
		{"f1 = f0 | f1 = f0", "f1 = f0 | f1 != f0", false},
		{"f1 = f0 | f1 = f0", "f1 = f0 | f0 = f1", true},
		{"X1 = f0 | f1 = f0", "f1 = f0 | f2(f0) = f0", true},
		{"X1 = f0 | f2(X1) = f0", "f1 = f0 | f2(f1) = f0", true},
		{"X1 = f0 | f2(X1) = f0", "f2(f1) = f0 | f1 = f0", true},
		{"X1 = f0 | f2(X1) = f0", "f0 = f0 | f2(f1) = f0", false},
		{"X1 != X2 | X2 != X3", "f0 != f1 | f2(f0) != f0", true},
		{"f3(X1,X2) != f0 | f3(X2,X3) != f0", "f3(f0,f1) != f0 | f3(f1,f1) != f0", true},
		{"f3(X1,X2) != f0 | f3(X2,X3) != f0", "f3(f0,f1) != f0 | f3(f0,f1) != f0", false},
	} {
		s := &store{g: small(), work: mostWork}
		l := parse(c.c, c.d)
		if s.fits(l[0], l[1], bound{}) != c.want {
			t.Errorf("%s, %s: not %v", c.c, c.d, c.want)
		}
		// It asks more than Subsumes.
		if is, e := clause.Subsumes(small(), l[0], l[1]); e != api.OK || c.want && !is {
			t.Errorf("%s, %s: %v %d", c.c, c.d, is, e)
		}
	}
}

func TestFitsEndsWhereNoWorkIsLeft(t *testing.T) {
	l := parse("f3(X1,X2) = f0 | f3(X2,X3) = f0 | f3(X3,X1) = f0", "f3(f0,f1) = f0 | f3(f1,f2(f0)) = f0 | f3(f2(f0),f0) = f0")
	s := &store{g: small(), work: mostWork}
	if !s.fits(l[0], l[1], bound{}) || s.work >= mostWork {
		t.Errorf("%d left", s.work)
	}
	s.work = 2
	if s.fits(l[0], l[1], bound{}) {
		t.Error("without work")
	}
}

func TestStoreKeepsWhatIsNew(t *testing.T) {
	s := &store{g: small(), work: mostWork}
	for _, c := range []struct {
		give, keep string
		want       []int8
	}{
		{"f2(f0) = f0", "", []int8{waits}},
		{"f0 = f2(f0)", "", []int8{waits, gone}},
		{"", "f0 = f2(f0)", []int8{waits, gone}},
		{"", "f1 = f1", []int8{waits, gone}},
		{"f1 = f1", "", []int8{waits, gone, gone}},
		{"", "f2(f1) = f1", []int8{waits, gone, gone, waits}},
		{"", "f2(X1) = X1", []int8{gone, gone, gone, gone, waits}},
		{"", "f2(X1) = X1 | f0 = f1", []int8{gone, gone, gone, gone, waits}},
	} {
		if c.give != "" {
			s.give(parse(c.give)[0])
		} else {
			s.keep(parse(c.keep)[0], api.Inference{})
		}
		var is []int8
		for _, x := range s.list {
			is = append(is, x.is)
		}
		if !slices.Equal(is, c.want) {
			t.Errorf("%s%s: %v, not %v", c.give, c.keep, is, c.want)
		}
	}
	if s.given != 3 {
		t.Errorf("%d were given", s.given)
	}
}

func TestFuelIsHowManyClausesAreLookedAt(t *testing.T) {
	l := parse("f2(f2(f0)) = f0", "f2(f2(f2(f0))) = f0", "f2(f0) != f0")
	for fuel, want := range []int{api.VerdictUnknown, api.VerdictUnknown, api.VerdictUnknown, api.VerdictUnknown, api.VerdictRefuted, api.VerdictRefuted} {
		if a := found(t, l, fuel); a.Verdict != want {
			t.Errorf("%d: %d, not %d", fuel, a.Verdict, want)
		}
	}
}

func TestProofsHaveNoMoreThanTheyNeed(t *testing.T) {
	for _, c := range []struct {
		l    []api.Clause
		want int
	}{
		{parse("f0 = f1", "f2(X1) = X1", "f2(f0) != f0"), 1},
		{parse("f2(f2(f0)) = f0", "f2(f2(f2(f0))) = f0", "f2(f0) != f0"), 2},
		{parse("f3(X1,X2) = f3(X2,X1)", "f2(f0) = f1", "f1 != f2(f0)"), 1},
	} {
		if a := found(t, c.l, api.MaxFuel); len(a.Proof) != c.want {
			t.Errorf("%q: %v", write(c.l), a)
		}
	}
}
