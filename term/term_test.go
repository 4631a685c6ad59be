package term

import (
	"reflect"
	"slices"
	"testing"

	"superpose/api"
)

// small: two things, a function of one, one of two, one of three.
func small() api.Signature { return api.Signature{Arity: []int{0, 0, 1, 2, 3}} }

func v(n int) api.Term { return api.Term{Var: n} }

func f(n int, args ...api.Term) api.Term { return api.Term{Fn: n, Args: args} }

// tower: n functions of one argument, a variable in them.
func tower(n int) api.Term {
	t := v(1)
	for range n {
		t = f(2, t)
	}
	return t
}

// bush: a term of n parts, n odd, that grows to the left.
func bush(n int) api.Term {
	t := f(0)
	for range n / 2 {
		t = f(3, t, v(7))
	}
	return t
}

// holder: a term that holds itself.
func holder() api.Term {
	args := make([]api.Term, 2)
	args[0], args[1] = f(0), f(3)
	args[1].Args = args
	return args[1]
}

// doubled: of 2^n ends, in little memory.
func doubled(n int) api.Term {
	t := f(0)
	for range n {
		t = f(3, t, t)
	}
	return t
}

func TestA1Signature(t *testing.T) {
	for _, c := range []struct {
		arity []int
		want  api.Errno
	}{
		{nil, api.OK},
		{[]int{}, api.OK},
		{[]int{0, 1, 2, 3}, api.OK},
		{make([]int, api.MaxFunctions), api.OK},
		{make([]int, api.MaxFunctions+1), api.ErrMany},
		{[]int{-1}, api.ErrRange},
		{[]int{0, 3, 4}, api.ErrRange},
		{[]int{4, 0, 0}, api.ErrRange},
		{slices.Repeat([]int{9}, api.MaxFunctions), api.ErrRange},
		{slices.Repeat([]int{9}, api.MaxFunctions+1), api.ErrMany},
	} {
		if e := Signature(api.Signature{Arity: c.arity}); e != c.want {
			t.Errorf("%v: %d, not %d", c.arity, e, c.want)
		}
	}
}

func TestA1OthersTellItFirst(t *testing.T) {
	for _, c := range []struct {
		g    api.Signature
		want api.Errno
	}{
		{api.Signature{Arity: make([]int, 13)}, api.ErrMany},
		{api.Signature{Arity: []int{0, -1}}, api.ErrRange},
	} {
		for _, x := range []api.Term{v(1), f(0), f(99), v(-1), tower(300), holder()} {
			if got := allErrors(c.g, x, []int{5}, f(77)); !slices.Equal(got, slices.Repeat([]api.Errno{c.want}, 5)) {
				t.Errorf("%v: %v, not %d each", c.g, got, c.want)
			}
		}
	}
}

// allErrors: what each call says of a term that it must refuse; nothing else may come with an error.
func allErrors(g api.Signature, x api.Term, place []int, u api.Term) []api.Errno {
	n, e1 := Size(g, x)
	l, e2 := Vars(g, x)
	y, e3 := At(g, x, place)
	z, e4 := Put(g, x, place, u)
	if n != 0 || len(l) != 0 || !empty(y) || !empty(z) {
		return nil
	}
	return []api.Errno{Check(g, x), e1, e2, e3, e4}
}

func empty(t api.Term) bool { return t.Var == 0 && t.Fn == 0 && len(t.Args) == 0 }

func TestA2Check(t *testing.T) {
	for i, c := range []struct {
		x    api.Term
		want api.Errno
	}{
		{v(1), api.OK},
		{v(api.MaxVar), api.OK},
		{f(0), api.OK},
		{f(4, v(3), f(2, f(1)), f(3, v(3), v(2))), api.OK},
		{api.Term{Var: 1, Args: []api.Term{}}, api.OK},
		{api.Term{Args: []api.Term{}}, api.OK},
		{v(api.MaxVar + 1), api.ErrRange},
		{v(-1), api.ErrRange},
		{api.Term{Var: 1, Fn: 1}, api.ErrForm},
		{api.Term{Var: 1, Fn: -1}, api.ErrForm},
		{api.Term{Var: 1, Args: []api.Term{f(0)}}, api.ErrForm},
		{f(5), api.ErrNone},
		{f(-1), api.ErrNone},
		{f(0, v(1)), api.ErrForm},
		{f(2), api.ErrForm},
		{f(2, v(1), v(1)), api.ErrForm},
		{f(3, v(1)), api.ErrForm},
		{f(4, v(1), v(1)), api.ErrForm},
		{f(4, v(1), v(1), v(1), v(1)), api.ErrForm},

		// Of one part: the range ahead of the form.
		{api.Term{Var: 2000, Fn: 1}, api.ErrRange},
		{api.Term{Var: -5, Args: []api.Term{f(0)}}, api.ErrRange},
		{f(9, v(1), v(1), v(1), v(1), v(1)), api.ErrNone},

		// What stands in a part is told ahead of it, that of a variable, too.
		{f(9, v(1001)), api.ErrRange},
		{f(2, v(1001), v(1)), api.ErrRange},
		{f(0, f(9)), api.ErrNone},
		{api.Term{Var: 2000, Args: []api.Term{f(9)}}, api.ErrNone},
		{api.Term{Var: 1, Args: []api.Term{v(1001)}}, api.ErrRange},
		{f(9, f(2), f(9)), api.ErrForm},

		// The left one is told first, with all that stands in it.
		{f(3, v(1001), f(9)), api.ErrRange},
		{f(3, f(9), v(1001)), api.ErrNone},
		{f(3, f(2, f(2)), v(1001)), api.ErrForm},
		{f(3, f(2, f(2, f(0), f(0))), v(1001)), api.ErrForm},
		{f(3, v(1), f(9)), api.ErrNone},

		// Too many, ahead of all else.
		{tower(119), api.OK},
		{tower(120), api.ErrMany},
		{bush(119), api.OK},
		{bush(121), api.ErrMany},
		{f(2, bush(119)), api.OK},
		{f(3, bush(119), v(1001)), api.ErrMany},
		{f(9, make([]api.Term, 119)...), api.ErrNone},
		{f(9, make([]api.Term, 120)...), api.ErrMany},
		{api.Term{Var: 1, Args: make([]api.Term, 119)}, api.ErrForm},
		{api.Term{Var: 1, Args: make([]api.Term, 120)}, api.ErrMany},
	} {
		if e := Check(small(), c.x); e != c.want {
			t.Errorf("%d: %d, not %d", i, e, c.want)
		}
		if c.want == api.OK {
			continue
		}
		if got := allErrors(small(), c.x, []int{5}, f(0)); !slices.Equal(got, slices.Repeat([]api.Errno{c.want}, 5)) {
			t.Errorf("%d: %v, not %d each", i, got, c.want)
		}
	}
}

func TestA2EndsWhateverTheTerm(t *testing.T) {
	for i, x := range []api.Term{holder(), doubled(60), tower(60000), f(0, make([]api.Term, 1<<20)...), v(1001)} {
		want := api.ErrMany
		if i == 4 {
			want = api.ErrRange
		}
		if got := allErrors(small(), x, nil, v(1)); !slices.Equal(got, slices.Repeat([]api.Errno{want}, 5)) {
			t.Errorf("%d: %v, not %d each", i, got, want)
		}
	}
}

func TestA2PutTellsOfBoth(t *testing.T) {
	for i, c := range []struct {
		x, u api.Term
		want api.Errno
	}{
		{v(1001), f(9), api.ErrRange},
		{f(9), v(1001), api.ErrNone},
		{f(0), v(1001), api.ErrRange},
		{f(0), tower(120), api.ErrMany},
		{f(0), holder(), api.ErrMany},
		{f(0), f(2), api.ErrForm},
		{f(0), f(0), api.ErrNone},
	} {
		if y, e := Put(small(), c.x, []int{7}, c.u); e != c.want || !empty(y) {
			t.Errorf("%d: %v %d, not %d", i, y, e, c.want)
		}
	}
}

func TestA3SizeAndVars(t *testing.T) {
	for i, c := range []struct {
		x    api.Term
		size int
		vars []int
	}{
		{v(1), 1, []int{1}},
		{f(0), 1, nil},
		{f(2, v(1000)), 2, []int{1000}},
		{f(3, v(2), v(1)), 3, []int{1, 2}},
		{f(3, v(2), v(2)), 3, []int{2}},
		{f(4, v(9), f(3, v(3), v(9)), f(2, v(1))), 7, []int{1, 3, 9}},
		{f(4, f(0), f(2, f(1)), f(0)), 5, nil},
		{tower(119), 120, []int{1}},
		{bush(119), 119, []int{7}},
	} {
		if n, e := Size(small(), c.x); n != c.size || e != api.OK {
			t.Errorf("%d: size %d %d, not %d", i, n, e, c.size)
		}
		if l, e := Vars(small(), c.x); !slices.Equal(l, c.vars) || e != api.OK {
			t.Errorf("%d: variables %v %d, not %v", i, l, e, c.vars)
		}
	}
}

func TestA3At(t *testing.T) {
	x := f(4, v(3), f(3, f(2, v(8)), f(1)), f(0))
	for i, c := range []struct {
		place []int
		want  api.Term
		err   api.Errno
	}{
		{nil, x, api.OK},
		{[]int{}, x, api.OK},
		{[]int{0}, v(3), api.OK},
		{[]int{1}, f(3, f(2, v(8)), f(1)), api.OK},
		{[]int{2}, f(0), api.OK},
		{[]int{1, 0}, f(2, v(8)), api.OK},
		{[]int{1, 1}, f(1), api.OK},
		{[]int{1, 0, 0}, v(8), api.OK},
		{[]int{3}, api.Term{}, api.ErrNone},
		{[]int{-1}, api.Term{}, api.ErrNone},
		{[]int{0, 0}, api.Term{}, api.ErrNone},
		{[]int{1, 2}, api.Term{}, api.ErrNone},
		{[]int{1, 0, 0, 0}, api.Term{}, api.ErrNone},
		{[]int{1, -1}, api.Term{}, api.ErrNone},
		{[]int{2, 0}, api.Term{}, api.ErrNone},
		{[]int{1 << 62}, api.Term{}, api.ErrNone},
		{make([]int, 1<<20), api.Term{}, api.ErrNone},
	} {
		y, e := At(small(), x, c.place)
		if e != c.err || !same(y, c.want) {
			t.Errorf("%d: %v %d, not %v %d", i, y, e, c.want, c.err)
		}
		if z, e := Put(small(), x, c.place, v(5)); e != c.err || e != api.OK && !empty(z) {
			t.Errorf("%d: Put says %d, not %d", i, e, c.err)
		}
	}
}

func same(x, y api.Term) bool {
	return x.Var == y.Var && x.Fn == y.Fn && slices.EqualFunc(x.Args, y.Args, same)
}

func TestA3Put(t *testing.T) {
	x := f(4, v(3), f(3, f(2, v(8)), f(1)), f(0))
	u := f(2, v(3))
	for i, c := range []struct {
		place []int
		want  api.Term
	}{
		{nil, u},
		{[]int{0}, f(4, u, f(3, f(2, v(8)), f(1)), f(0))},
		{[]int{1}, f(4, v(3), u, f(0))},
		{[]int{2}, f(4, v(3), f(3, f(2, v(8)), f(1)), u)},
		{[]int{1, 0}, f(4, v(3), f(3, u, f(1)), f(0))},
		{[]int{1, 1}, f(4, v(3), f(3, f(2, v(8)), u), f(0))},
		{[]int{1, 0, 0}, f(4, v(3), f(3, f(2, u), f(1)), f(0))},
	} {
		if y, e := Put(small(), x, c.place, u); e != api.OK || !same(y, c.want) {
			t.Errorf("%d: %v %d, not %v", i, y, e, c.want)
		}
	}
	if y, e := Put(small(), f(2, v(2)), []int{0}, f(0)); e != api.OK || !same(y, f(2, f(0))) {
		t.Errorf("example 1: %v %d", y, e)
	}
}

func TestA3PutOfTooMuch(t *testing.T) {
	for i, c := range []struct {
		x, u  api.Term
		place []int
		want  api.Errno
	}{
		{f(2, v(1)), tower(118), []int{0}, api.OK},
		{f(2, v(1)), tower(119), []int{0}, api.ErrMany},
		{tower(119), tower(119), nil, api.OK},
		{tower(119), tower(118), []int{0}, api.OK},
		{tower(119), tower(119), []int{0}, api.ErrMany},
		{tower(119), tower(117), []int{0, 0}, api.OK},
		{tower(119), tower(118), []int{0, 0}, api.ErrMany},
		{bush(119), f(2, v(1)), []int{1}, api.OK},
		{bush(119), f(2, f(2, v(1))), []int{1}, api.ErrMany},
		{bush(119), tower(119), []int{2}, api.ErrNone},
	} {
		y, e := Put(small(), c.x, c.place, c.u)
		if e != c.want || e != api.OK && !empty(y) {
			t.Errorf("%d: %d, not %d", i, e, c.want)
		}
	}
}

// places of a term, all of them.
func places(x api.Term) [][]int {
	l := [][]int{nil}
	for i, a := range x.Args {
		for _, p := range places(a) {
			l = append(l, append([]int{i}, p...))
		}
	}
	return l
}

func TestA4WhatIsPutIsThere(t *testing.T) {
	terms := []api.Term{v(1), f(0), f(2, v(1)), f(3, v(2), v(1)), f(4, v(3), f(3, f(2, v(8)), f(1)), f(0)), bush(13), tower(30)}
	for _, x := range terms {
		for _, u := range terms {
			for _, p := range places(x) {
				putBack(t, x, u, p)
			}
		}
	}
}

func putBack(t *testing.T, x, u api.Term, p []int) {
	was, e1 := At(small(), x, p)
	y, e2 := Put(small(), x, p, u)
	there, e3 := At(small(), y, p)
	back, e4 := Put(small(), y, p, was)
	if e1 != api.OK || e2 != api.OK || e3 != api.OK || e4 != api.OK {
		t.Fatalf("%v at %v: %d %d %d %d", x, p, e1, e2, e3, e4)
	}
	if !same(there, u) || !same(back, x) {
		t.Errorf("%v at %v: there is %v, not %v; put back %v", x, p, there, u, back)
	}
	n1, _ := Size(small(), x)
	n2, _ := Size(small(), was)
	n3, _ := Size(small(), u)
	if n, _ := Size(small(), y); n != n1-n2+n3 {
		t.Errorf("%v at %v: size %d", x, p, n)
	}
}

func TestSizeStopsAtItsLimit(t *testing.T) {
	for _, limit := range []int{0, 1, 5, 120} {
		if n := size(limit, holder(), doubled(60)); n != limit+1 {
			t.Errorf("limit %d: %d", limit, n)
		}
	}
	if n := size(120, v(1), f(2, v(1))); n != 3 {
		t.Errorf("of two terms: %d", n)
	}
}

func TestLookGoesBehindAndStops(t *testing.T) {
	var seen []int
	all := look(func(part api.Term) bool {
		seen = append(seen, part.Fn)
		return part.Fn != 9
	}, f(1, f(2, f(3)), f(4)), f(5, f(6), f(9), f(7)))
	if want := []int{3, 2, 4, 1, 6, 9}; all || !reflect.DeepEqual(seen, want) {
		t.Errorf("%v %v, not %v", all, seen, want)
	}
}
