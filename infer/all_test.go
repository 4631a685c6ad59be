package infer

import (
	"fmt"
	"iter"
	"slices"
	"testing"

	"superpose/api"
	"superpose/clause"
	"superpose/model"
	"superpose/order"
	"superpose/subst"
)

// told: inferences as texts, without what is nothing to them.
func told(l []api.Inference) []string {
	var out []string
	for _, i := range l {
		out = append(out, fmt.Sprint(i.Kind, i.LeftAt, i.LeftTurned, i.RightAt, i.RightTurned, i.Place))
	}
	return out
}

func TestH3ByHand(t *testing.T) {
	for _, c := range []struct {
		l    []api.Clause
		two  bool
		want []string
	}{
		{parse("$false"), false, nil},
		{parse("f0 = f1"), false, nil},
		{parse("f0 != f0"), false, []string{"1 0 false 0 false []"}},
		{parse("$false", "f0 = f1"), true, nil},
		{parse("f0 = f1", "$false"), true, nil},

		// Kinds ahead of literals, then the first one, turned or not, then the second one.
		{parse("f2(X1) = X2 | f0 != X1 | X1 = f1 | f1 != f0 | X3 != X2"), false, []string{
			"1 1 false 0 false []", "1 4 false 0 false []",
			"2 2 false 0 true []", "2 2 true 0 true []"}},
		{parse("f2(X1) = X2 | f2(X3) = X4"), false, []string{
			"2 0 false 1 false []", "2 0 false 1 true []", "2 0 true 1 false []", "2 0 true 1 true []",
			"2 1 false 0 false []", "2 1 false 0 true []", "2 1 true 0 false []", "2 1 true 0 true []"}},

		// Places last, what has others ahead of them.
		{parse("f2(X1) = f0", "f4(f2(f0),f3(X1,f2(f2(f1))),f2(X1)) != f0"), true, []string{
			"3 0 false 0 false [0]", "3 0 false 0 false [1 1]", "3 0 false 0 false [1 1 0]", "3 0 false 0 false [2]"}},
		{parse("X1 = f0", "f2(f1) != f0"), true, []string{"3 0 false 0 false []", "3 0 false 0 false [0]"}},
		{parse("f3(X1,X2) = f2(X1) | f1 != f0 | f1 = f0", "X1 = f3(f1,X1) | f3(f3(X1,f1),X2) != f2(f1)"), true, []string{
			"3 0 false 0 true []", "3 0 false 1 false []", "3 0 false 1 false [0]",
			"3 2 false 0 true [0]", "3 2 false 1 false [0 1]"}},
		{parse("f1 = f0 | f1 = f1", "f1 = f0 | f0 = f1"), true, []string{"3 0 false 0 false []", "3 0 false 1 true []"}},
	} {
		right := -1
		if c.two {
			right = 1
		}
		all, e := All(small(), c.l, 0, right)
		if e != api.OK || !slices.Equal(told(all), c.want) {
			t.Errorf("%s: %v %d, not %v", write(c.l[0]), told(all), e, c.want)
		}
		for _, i := range all {
			if i.Left != 0 || i.Right != max(right, 0) {
				t.Errorf("%s: clauses of %v", write(c.l[0]), i)
			}
		}
	}
}

func TestH3NamesTheClauses(t *testing.T) {
	l := parse("$false", "f2(X1) = X1", "f0 != f0 | f2(f0) != f0")
	for _, c := range []struct {
		left, right int
		want        []api.Inference
	}{
		{2, -1, []api.Inference{{Kind: 1, Left: 2}}},
		{1, 2, []api.Inference{{Kind: 3, Left: 1, Right: 2, RightAt: 1}}},
		{1, 1, []api.Inference{{Kind: 3, Left: 1, Right: 1}}},
		{2, 1, nil},
		{0, 1, nil},
		{1, 0, nil},
		{0, -1, nil},
	} {
		all, e := All(small(), l, c.left, c.right)
		if e != api.OK || fmt.Sprint(all) != fmt.Sprint(c.want) {
			t.Errorf("%d and %d: %v %d", c.left, c.right, all, e)
		}
	}
}

func TestH3Errors(t *testing.T) {
	l := parse("f0 = f1", "f2(X1) = X1")
	wrong := []api.Clause{l[0], {no(f(0), v(1001))}}
	for _, c := range []struct {
		l           []api.Clause
		left, right int
		want        api.Errno
	}{
		{l, 0, -1, api.OK},
		{l, 1, 0, api.OK},
		{l, 0, -2, api.ErrNone},
		{l, 0, 2, api.ErrNone},
		{l, 2, 0, api.ErrNone},
		{l, -1, 0, api.ErrNone},
		{l, -1, -1, api.ErrNone},
		{l, 2, -1, api.ErrNone},
		{l, 1<<63 - 1, -1 << 63, api.ErrNone},
		{nil, 0, -1, api.ErrNone},
		{nil, -1, -1, api.ErrNone},
		{wrong, 0, -1, api.ErrRange},
		{wrong, 9, 9, api.ErrRange},
		{make([]api.Clause, api.MaxClauses+1), 99, -2, api.ErrMany},
		{[]api.Clause{{no(holder(), holder())}}, 0, 0, api.ErrMany},
	} {
		if all, e := All(small(), c.l, c.left, c.right); e != c.want || e != api.OK && len(all) != 0 {
			t.Errorf("%d and %d: %v %d, not %d", c.left, c.right, all, e, c.want)
		}
	}
}

func TestH3NoneWithAnError(t *testing.T) {
	for i, l := range [][]api.Clause{
		parse("f2(X999) = f0", "f2(f2(X2)) != X2"),
		{{yes(f(3, v(1), f(0)), tower(60, v(1)))}, {no(f(3, tower(60, v(1)), f(0)), f(0))}},
		{{yes(f(3, v(1), v(1)), f(0))}, {no(f(3, v(2), tower(59, v(3))), f(0))}},
	} {
		if all, e := All(small(), l, 0, 1); e != api.OK || len(all) != 0 {
			t.Errorf("%d: %v %d", i, all, e)
		}
	}
}

func TestTriesStopWhenTold(t *testing.T) {
	c := parse("f2(X1) = f3(f0,f2(X2)) | f0 != f4(X1,f0,X2)")[0]
	for name, tried := range map[string]iter.Seq[api.Inference]{"ones": ones(small(), c, 0), "puts": puts(small(), c, c, 0, 0)} {
		whole := 0
		for range tried {
			whole++
		}
		for n := 1; n <= whole; n++ {
			k := 0
			for range tried {
				if k++; k == n {
					break
				}
			}
			if k != n {
				t.Errorf("%s: %d, not %d", name, k, n)
			}
		}
	}
}

func TestP1AllEndsSoon(t *testing.T) {
	by := slices.Repeat(api.Clause{yes(v(1), v(2))}, api.MaxLiterals)
	great := slices.Repeat(api.Clause{no(tower(119, f(0)), tower(119, f(1)))}, api.MaxLiterals)
	// Each way of each by each, at each place of the side that is greater.
	if all, e := All(small(), []api.Clause{by, great}, 0, 1); len(all) != 8*2*8*120 || e != api.OK {
		t.Errorf("%d %d", len(all), e)
	}
	// As many, and each of them has too many literals.
	for n := range by {
		by[n] = yes(v(n+1), v(n+2))
	}
	if all, e := All(small(), []api.Clause{by, great}, 0, 1); len(all) != 0 || e != api.OK {
		t.Errorf("%d %d", len(all), e)
	}
}

// size of a term.
func size(x api.Term) int {
	n := 1
	for _, a := range x.Args {
		n += size(a)
	}
	return n
}

// most: the greatest number of a variable.
func most(x api.Term) int {
	n := x.Var
	for _, a := range x.Args {
		n = max(n, most(a))
	}
	return n
}

// mostOf a clause.
func mostOf(c api.Clause) int {
	n := 0
	for _, l := range c {
		n = max(n, most(l.A), most(l.B))
	}
	return n
}

// made: the term with each variable made what is told.
func made(x api.Term, of func(n int) api.Term) api.Term {
	if x.Var != 0 {
		return of(x.Var)
	}
	y := f(x.Fn)
	for _, a := range x.Args {
		y.Args = append(y.Args, made(a, of))
	}
	return y
}

// putAt: the term with another one at a place.
func putAt(x api.Term, place []int, y api.Term) api.Term {
	if len(place) == 0 {
		return y
	}
	z := f(x.Fn, slices.Clone(x.Args)...)
	z.Args[place[0]] = putAt(x.Args[place[0]], place[1:], y)
	return z
}

// at a place: false, if there is none.
func at(x api.Term, place []int) (api.Term, bool) {
	if len(place) == 0 {
		return x, true
	}
	if place[0] < 0 || place[0] >= len(x.Args) {
		return api.Term{}, false
	}
	return at(x.Args[place[0]], place[1:])
}

// turnedTo: a literal, its first side ahead.
func turnedTo(l api.Literal, turned bool) api.Literal {
	if turned {
		l.A, l.B = l.B, l.A
	}
	return l
}

// asked: what an inference asks for: two terms that are made the same, pairs whose second one must not be greater, nor the same, and what comes.
type asked struct {
	a, b  api.Term
	pairs [][2]api.Term
	comes api.Clause
}

// plainNamed reads H2 as far as what must be nothing.
func plainNamed(l []api.Clause, i api.Inference) api.Errno {
	there := func(c, at int) bool { return c >= 0 && c < len(l) && at >= 0 && at < len(l[c]) }
	inU := func() bool {
		if !there(i.Right, i.RightAt) {
			return false
		}
		_, ok := at(turnedTo(l[i.Right][i.RightAt], i.RightTurned).A, i.Place)
		return ok
	}
	switch {
	case i.Kind < 1 || i.Kind > 3:
		return api.ErrKind
	case !there(i.Left, i.LeftAt), i.Kind == 2 && !there(i.Left, i.RightAt), i.Kind == 3 && !inU():
		return api.ErrNone
	case i.Kind < 3 && (i.Right != 0 || len(i.Place) != 0), i.Kind == 1 && (i.RightAt != 0 || i.LeftTurned || i.RightTurned):
		return api.ErrForm
	}
	return api.OK
}

// plainAsked reads H1, of an inference that names what there is.
func plainAsked(l []api.Clause, i api.Inference) (asked, api.Errno) {
	left := l[i.Left]
	k := turnedTo(left[i.LeftAt], i.LeftTurned)
	rest := append(slices.Clone(left[:i.LeftAt]), left[i.LeftAt+1:]...)
	if i.Kind == 1 {
		if k.Yes {
			return asked{}, api.ErrState
		}
		return asked{k.A, k.B, nil, rest}, api.OK
	}
	if !k.Yes {
		return asked{}, api.ErrState
	}
	if i.Kind == 2 {
		m := turnedTo(left[i.RightAt], i.RightTurned)
		if !m.Yes || i.LeftAt == i.RightAt {
			return asked{}, api.ErrState
		}
		return asked{k.A, m.A, [][2]api.Term{{k.A, k.B}}, append(rest, no(k.B, m.B))}, api.OK
	}
	if x, _ := at(turnedTo(l[i.Right][i.RightAt], i.RightTurned).A, i.Place); x.Var != 0 {
		return asked{}, api.ErrState
	}
	if mostOf(l[i.Right]) > 0 && mostOf(left)+mostOf(l[i.Right]) > api.MaxVar {
		return asked{}, api.ErrMany
	}
	other := func(n int) api.Term { return v(n + mostOf(left)) }
	var m api.Literal
	for n, r := range l[i.Right] {
		r.A, r.B = made(r.A, other), made(r.B, other)
		if n == i.RightAt {
			m = turnedTo(r, i.RightTurned)
			r = turnedTo(api.Literal{Yes: m.Yes, A: putAt(m.A, i.Place, k.B), B: m.B}, i.RightTurned)
		}
		rest = append(rest, r)
	}
	x, _ := at(m.A, i.Place)
	return asked{k.A, x, [][2]api.Term{{k.A, k.B}, {m.A, m.B}}, rest}, api.OK
}

// plainly reads H1 and H2: what comes, or the error that is met first.
func plainly(l []api.Clause, i api.Inference) (api.Clause, api.Errno) {
	if e := plainNamed(l, i); e != api.OK {
		return nil, e
	}
	x, e := plainAsked(l, i)
	if e != api.OK {
		return nil, e
	}
	u, ok, e := subst.Unify(small(), x.a, x.b)
	if e != api.OK {
		return nil, e
	}
	if !ok {
		return nil, api.ErrState
	}
	to := func(n int) api.Term {
		for _, b := range u {
			if b.Var == n {
				return b.To
			}
		}
		return v(n)
	}
	for _, p := range x.pairs {
		s, t := made(p[0], to), made(p[1], to)
		if size(s) > api.MaxSize || size(t) > api.MaxSize {
			return nil, api.ErrMany
		}
		if n, _ := order.Compare(small(), t, s); n > 0 || fmt.Sprint(s) == fmt.Sprint(t) {
			return nil, api.ErrState
		}
	}
	for n, k := range x.comes {
		x.comes[n].A, x.comes[n].B = made(k.A, to), made(k.B, to)
		if size(x.comes[n].A) > api.MaxSize || size(x.comes[n].B) > api.MaxSize {
			return nil, api.ErrMany
		}
	}
	left := plainLeft(x.comes)
	if len(left) > api.MaxLiterals {
		return nil, api.ErrMany
	}
	return clause.Tidy(small(), left)
}

// plainLeft reads F2: the literals that stay when a clause, of however many, is tidied.
func plainLeft(c api.Clause) api.Clause {
	var left api.Clause
	seen := map[string]bool{}
	for _, k := range c {
		a, b := fmt.Sprint(k.A), fmt.Sprint(k.B)
		here, turned := fmt.Sprint(k.Yes, a, b), fmt.Sprint(k.Yes, b, a)
		if (k.Yes || a != b) && !seen[here] && !seen[turned] {
			left = append(left, k)
		}
		seen[here] = true
	}
	return left
}

// draw: numbers that are the same each time.
type draw uint64

func (d *draw) n(n int) int {
	*d = *d*6364136223846793005 + 1442695040888963407
	return int(uint64(*d) >> 33 % uint64(n))
}

// few terms, of little size.
func few() []api.Term {
	return []api.Term{v(1), v(2), v(3), f(0), f(1), f(2, v(1)), f(2, v(2)), f(2, f(0)), f(2, f(2, v(1))), f(3, v(1), v(2)), f(3, v(2), v(1)), f(3, f(0), v(1)), f(3, v(1), f(2, v(1))), f(3, f(2, v(2)), f(1))}
}

// great terms, and numbers: what is made of them is often too much.
func great() []api.Term {
	return []api.Term{v(999), v(500), tower(70, v(1)), tower(50, v(2)), tower(110, f(0)), f(3, tower(60, v(1)), v(2)), f(3, v(1), tower(30, v(3))), tower(40, f(3, v(1), v(1))), f(4, v(1), v(1), v(2)), f(3, v(1), tower(100, f(1)))}
}

// lists of two clauses that are drawn.
func lists(terms []api.Term, n int) [][]api.Clause {
	d := new(draw)
	var out [][]api.Clause
	for range n {
		l := make([]api.Clause, 2)
		for i := range l {
			for range 1 + d.n(3) {
				l[i] = append(l[i], api.Literal{Yes: d.n(3) > 0, A: terms[d.n(len(terms))], B: terms[d.n(len(terms))]})
			}
			if d.n(20) == 0 {
				l[i] = slices.Concat(l[i], slices.Repeat(l[i][:1], 4))
			}
		}
		out = append(out, l)
	}
	return out
}

// each inference that may be tried, in the order of H3.
func each(l []api.Clause, left, right int) []api.Inference {
	turns := []bool{false, true}
	var out []api.Inference
	for leftAt := range l[left] {
		out = append(out, api.Inference{Kind: 1, Left: left, LeftAt: leftAt})
	}
	second := left
	if right >= 0 {
		out, second = nil, right
	}
	for leftAt := range l[left] {
		for _, leftTurned := range turns {
			for rightAt := range l[second] {
				for _, rightTurned := range turns {
					i := api.Inference{Kind: 2, Left: left, LeftAt: leftAt, RightAt: rightAt, LeftTurned: leftTurned, RightTurned: rightTurned}
					if right < 0 {
						out = append(out, i)
						continue
					}
					i.Kind, i.Right = 3, right
					down(turnedTo(l[right][rightAt], rightTurned).A, nil, func(place []int) {
						i.Place = place
						out = append(out, i)
					})
				}
			}
		}
	}
	return out
}

// down a term: all places.
func down(x api.Term, here []int, do func(place []int)) {
	do(here)
	for n, a := range x.Args {
		down(a, append(slices.Clone(here), n), do)
	}
}

// long: two clauses, drawn of few terms, of so many literals that what comes of both is too much ahead of its being tidied.
func long(n int) [][]api.Clause {
	terms := []api.Term{f(0), f(0), f(1), v(1), f(2, v(1)), f(2, f(0))}
	d := new(draw)
	var out [][]api.Clause
	for range n {
		l := make([]api.Clause, 2)
		for i := range l {
			for range 5 + d.n(4) {
				l[i] = append(l[i], api.Literal{Yes: d.n(3) == 0, A: terms[d.n(len(terms))], B: terms[d.n(len(terms))]})
			}
		}
		out = append(out, l)
	}
	return out
}

// asPlain asks that Infer and All of lists of two clauses say what the plain reading says, and counts its errors.
func asPlain(t *testing.T, lists [][]api.Clause) map[api.Errno]int {
	t.Helper()
	count := map[api.Errno]int{}
	for _, l := range lists {
		for _, c := range [][2]int{{0, -1}, {1, -1}, {0, 1}, {1, 0}, {1, 1}} {
			var good []api.Inference
			for _, i := range each(l, c[0], c[1]) {
				want, e := plainly(l, i)
				if e == api.OK {
					good = append(good, i)
				}
				count[e]++
				comesTo(t, l, i, write(want), e)
			}
			all, e := All(small(), l, c[0], c[1])
			if e != api.OK || fmt.Sprint(all) != fmt.Sprint(good) {
				t.Errorf("%s, %s, %v: %v %d, not %v", write(l[0]), write(l[1]), c, all, e, good)
			}
		}
	}
	return count
}

func TestH1H2H3SayWhatTheWordsSay(t *testing.T) {
	for _, drawn := range [][][]api.Clause{append(lists(few(), 300), lists(append(few(), great()...), 20)...), long(90)} {
		count := asPlain(t, drawn)
		if count[api.OK] < 1000 || count[api.ErrState] < 1000 || count[api.ErrMany] < 500 {
			t.Errorf("too few of a sort: %v", count)
		}
	}
}

func TestH2SaysWhatTheWordsSayOfWhatIsNamed(t *testing.T) {
	d := new(draw)
	count := map[api.Errno]int{}
	for _, l := range lists(few(), 300) {
		for range 100 {
			i := api.Inference{Kind: d.n(12)%4 + d.n(2), Left: d.n(8)%3 - d.n(9)/8, LeftAt: d.n(8) % 4, Right: d.n(2) * (d.n(5) - 1), RightAt: d.n(2) * (d.n(5) - 1), LeftTurned: d.n(2) > 0, RightTurned: d.n(2) > 0}
			for range d.n(4) * d.n(2) {
				i.Place = append(i.Place, d.n(4)-d.n(2))
			}
			want, e := plainly(l, i)
			count[e]++
			comesTo(t, l, i, write(want), e)
		}
	}
	for _, e := range []api.Errno{api.OK, api.ErrForm, api.ErrState, api.ErrNone, api.ErrKind} {
		if count[e] < 100 {
			t.Errorf("too few of a sort: %v", count)
		}
	}
}

// models of one and of two things, all of them but for f4, and some of three.
func models() []api.Model {
	l := []api.Model{{Size: 1, Tables: [][]int{{0}, {0}, {0}, {0}, {0}}}}
	for n := range 256 {
		bit := func(i int) int { return n >> i & 1 }
		l = append(l, api.Model{Size: 2, Tables: [][]int{{bit(0)}, {bit(1)}, {bit(2), bit(3)}, {bit(4), bit(5), bit(6), bit(7)}, make([]int, 8)}})
	}
	d := new(draw)
	for range 100 {
		m := api.Model{Size: 3, Tables: [][]int{{d.n(3)}, {d.n(3)}, {d.n(3), d.n(3), d.n(3)}, {}, make([]int, 27)}}
		for range 9 {
			m.Tables[3] = append(m.Tables[3], d.n(3))
		}
		l = append(l, m)
	}
	return l
}

// holds: in which of the models does a clause?
func holds(t *testing.T, c api.Clause) []bool {
	var l []bool
	for _, m := range models() {
		is, e := model.Holds(small(), m, c)
		if e != api.OK {
			t.Fatalf("%s: %d", write(c), e)
		}
		l = append(l, is)
	}
	return l
}

func TestH4WhatComesHolds(t *testing.T) {
	held := 0
	for _, l := range append(lists(few(), 40), parse("f2(X1) = X1", "f2(f0) != f0"), parse("f3(X1,X2) = f3(X2,X1)", "f3(X1,f0) = X1 | f2(X1) = X1"), parse("f3(f3(X1,X2),X3) = f3(X1,f3(X2,X3))", "f3(X1,X1) = f0")) {
		first, second := holds(t, l[0]), holds(t, l[1])
		for _, c := range [][2]int{{0, -1}, {0, 0}, {0, 1}, {1, 0}} {
			all, _ := All(small(), l, c[0], c[1])
			for n, i := range all {
				if n%5 > 1 {
					continue
				}
				d, _ := Infer(small(), l, i)
				for k, is := range holds(t, d) {
					if first[k] && second[k] {
						held++
					}
					if !is && (c != [2]int{0, 1} && c != [2]int{1, 0} && first[k] || first[k] && second[k]) {
						t.Errorf("%s, %s, %v: %s does not hold in model %d", write(l[0]), write(l[1]), i, write(d), k)
					}
				}
			}
		}
	}
	if held < 1000 {
		t.Errorf("only %d held", held)
	}
}
