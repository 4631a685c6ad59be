package text

import (
	"regexp"
	"slices"
	"strings"
	"testing"

	"superpose/api"
)

// small: two things, a function of one, one of two, one of three.
func small() api.Signature { return api.Signature{Arity: []int{0, 0, 1, 2, 3}} }

// full: as many functions as there may be.
func full() api.Signature { return api.Signature{Arity: []int{0, 1, 2, 3, 0, 1, 2, 3, 0, 1, 2, 3}} }

func v(n int) api.Term { return api.Term{Var: n} }

func f(n int, args ...api.Term) api.Term { return api.Term{Fn: n, Args: args} }

func yes(a, b api.Term) api.Literal { return api.Literal{Yes: true, A: a, B: b} }

func no(a, b api.Term) api.Literal { return api.Literal{A: a, B: b} }

func sameTerm(x, y api.Term) bool {
	return x.Var == y.Var && x.Fn == y.Fn && slices.EqualFunc(x.Args, y.Args, sameTerm)
}

func sameClause(c, d api.Clause) bool {
	return slices.EqualFunc(c, d, func(a, b api.Literal) bool {
		return a.Yes == b.Yes && sameTerm(a.A, b.A) && sameTerm(a.B, b.B)
	})
}

// tower: n functions of one argument, a variable in them.
func tower(n int) api.Term {
	t := v(1)
	for range n {
		t = f(2, t)
	}
	return t
}

// towerText: the text of it.
func towerText(n int) string {
	return strings.Repeat("f2(", n) + "X1" + strings.Repeat(")", n)
}

// holder: a term that holds itself.
func holder() api.Term {
	args := make([]api.Term, 1)
	args[0] = api.Term{Fn: 2, Args: args}
	return args[0]
}

func TestB1Terms(t *testing.T) {
	for _, c := range []struct {
		x    api.Term
		want string
	}{
		{v(1), "X1"},
		{v(10), "X10"},
		{v(1000), "X1000"},
		{f(0), "f0"},
		{api.Term{Fn: 8, Args: []api.Term{}}, "f8"},
		{f(1, v(7)), "f1(X7)"},
		{f(2, f(0), v(2)), "f2(f0,X2)"},
		{f(11, f(0), f(10, v(1), v(1)), f(9, f(8))), "f11(f0,f10(X1,X1),f9(f8))"},
		{f(3, f(3, v(1), v(2), v(3)), v(4), f(3, v(5), v(6), v(7))), "f3(f3(X1,X2,X3),X4,f3(X5,X6,X7))"},
	} {
		if s, e := Term(full(), c.x); s != c.want || e != api.OK {
			t.Errorf("%q %d, not %q", s, e, c.want)
		}
		if x, e := ParseTerm(full(), c.want); !sameTerm(x, c.x) || e != api.OK {
			t.Errorf("%q: %v %d, not %v", c.want, x, e, c.x)
		}
	}
}

func TestB1Clauses(t *testing.T) {
	for _, c := range []struct {
		c    api.Clause
		want string
	}{
		{nil, "$false"},
		{api.Clause{}, "$false"},
		{api.Clause{yes(f(0), f(1))}, "f0 = f1"},
		{api.Clause{no(f(0), f(1))}, "f0 != f1"},
		{api.Clause{no(v(2), v(1)), yes(f(2, v(1)), f(0))}, "X2 != X1 | f2(X1) = f0"},
		{api.Clause{yes(f(2, v(1)), f(0)), no(v(1), f(0))}, "f2(X1) = f0 | X1 != f0"},
		{slices.Repeat(api.Clause{yes(v(1), v(1))}, 8), strings.Repeat("X1 = X1 | ", 7) + "X1 = X1"},
	} {
		if s, e := Clause(small(), c.c); s != c.want || e != api.OK {
			t.Errorf("%q %d, not %q", s, e, c.want)
		}
		if x, e := ParseClause(small(), c.want); !sameClause(x, c.c) || e != api.OK {
			t.Errorf("%q: %v %d, not %v", c.want, x, e, c.c)
		}
	}
}

func TestB2ErrorsOfTerm(t *testing.T) {
	wrong := api.Signature{Arity: []int{4}}
	for i, c := range []struct {
		g    api.Signature
		x    api.Term
		want api.Errno
	}{
		{wrong, v(2000), api.ErrRange},
		{api.Signature{Arity: make([]int, 13)}, v(2000), api.ErrMany},
		{small(), v(1001), api.ErrRange},
		{small(), v(-1), api.ErrRange},
		{small(), api.Term{Var: 1, Fn: 2}, api.ErrForm},
		{small(), f(5), api.ErrNone},
		{small(), f(-1), api.ErrNone},
		{small(), f(2), api.ErrForm},
		{small(), f(3, f(9), v(1001)), api.ErrNone},
		{small(), tower(119), api.OK},
		{small(), tower(120), api.ErrMany},
		{small(), holder(), api.ErrMany},
	} {
		s, e := Term(c.g, c.x)
		if e != c.want || e != api.OK && s != "" {
			t.Errorf("%d: %q %d, not %d", i, s, e, c.want)
		}
	}
}

func TestB2ErrorsOfClause(t *testing.T) {
	nine := slices.Repeat(api.Clause{yes(f(9), v(2000))}, 9)
	for i, c := range []struct {
		g    api.Signature
		c    api.Clause
		want api.Errno
	}{
		{api.Signature{Arity: []int{4}}, nil, api.ErrRange},
		{api.Signature{Arity: []int{-1}}, nine, api.ErrRange},
		{api.Signature{Arity: make([]int, 13)}, nil, api.ErrMany},
		{small(), nine, api.ErrMany},
		{small(), nine[:8], api.ErrNone},
		{small(), make(api.Clause, 8), api.OK},
		{small(), make(api.Clause, 9), api.ErrMany},
		{small(), api.Clause{yes(v(1001), f(9))}, api.ErrRange},
		{small(), api.Clause{yes(f(9), v(1001))}, api.ErrNone},
		{small(), api.Clause{yes(v(1), f(9))}, api.ErrNone},
		{small(), api.Clause{yes(v(1), f(2)), yes(f(9), v(1))}, api.ErrForm},
		{small(), api.Clause{yes(v(1), f(1)), yes(f(9), v(1001))}, api.ErrNone},
		{small(), api.Clause{yes(v(1), f(9)), yes(tower(120), v(1))}, api.ErrNone},
		{small(), api.Clause{yes(v(1), v(1)), yes(tower(120), v(1001))}, api.ErrMany},
		{small(), api.Clause{no(v(1), holder())}, api.ErrMany},
	} {
		s, e := Clause(c.g, c.c)
		if e != c.want || e != api.OK && s != "" {
			t.Errorf("%d: %q %d, not %d", i, s, e, c.want)
		}
	}
}

func TestB2ErrorsOfParseTerm(t *testing.T) {
	for _, c := range []struct {
		s    string
		want api.Errno
	}{
		{"", api.ErrForm}, {"X", api.ErrForm}, {"f", api.ErrForm}, {"0", api.ErrForm}, {"$false", api.ErrForm},
		{"X0", api.ErrForm}, {"f2(X0)", api.ErrForm}, {"X00", api.ErrForm}, {"X01", api.ErrForm}, {"f00", api.ErrForm}, {"f01", api.ErrForm},
		{"X-1", api.ErrForm}, {"X+1", api.ErrForm}, {"f-0", api.ErrForm}, {"X1_0", api.ErrForm}, {"X1.0", api.ErrForm}, {"X1e1", api.ErrForm}, {"X0x1", api.ErrForm},
		{"X\u0661", api.ErrForm}, {"X\xff", api.ErrForm}, {"X1\x00", api.ErrForm}, {"\xff\xfe", api.ErrForm}, {"f0\n", api.ErrForm},
		{"x1", api.ErrForm}, {"F0", api.ErrForm}, {" f0", api.ErrForm}, {"f0 ", api.ErrForm}, {"f 0", api.ErrForm},
		{"f2 (X1)", api.ErrForm}, {"f2( X1)", api.ErrForm}, {"f2(X1 )", api.ErrForm}, {"f3(X1, X2)", api.ErrForm}, {"f3(X1 ,X2)", api.ErrForm},
		{"f0()", api.ErrForm}, {"f2()", api.ErrForm}, {"f2(", api.ErrForm}, {"f2(X1", api.ErrForm}, {"f2(X1,", api.ErrForm}, {"f2(X1,)", api.ErrForm}, {"f3(,X1)", api.ErrForm}, {"f3(X1,,X1)", api.ErrForm}, {"f2(X1))", api.ErrForm}, {"f2((X1))", api.ErrForm}, {"(X1)", api.ErrForm},
		{"X1(X1)", api.ErrForm}, {"X1X1", api.ErrForm}, {"f0f0", api.ErrForm}, {"f0,f0", api.ErrForm}, {"f0)", api.ErrForm}, {"f2(X1)(X1)", api.ErrForm}, {"f2[X1]", api.ErrForm},

		// As many digits as may be, and more.
		{"X1000", api.OK}, {"X1001", api.ErrRange}, {"X999999999", api.ErrRange}, {"X1000000000", api.ErrForm},
		{"f999999999", api.ErrNone}, {"f1000000000", api.ErrForm}, {"X99999999999999999999", api.ErrForm}, {"X" + strings.Repeat("1", 2999), api.ErrForm},

		// Of the form, by other functions: what Check says.
		{"f5", api.ErrNone}, {"f5(X1,X1,X1)", api.ErrNone}, {"f3(f5,f5(X1))", api.ErrNone},
		{"f2", api.ErrForm}, {"f0(X1)", api.ErrForm}, {"f2(X1,X1)", api.ErrForm}, {"f4(X1,X1)", api.ErrForm}, {"f4(X1,X1,X1)", api.OK},
		{"f9(X1001)", api.ErrRange}, {"f3(f9,X1001)", api.ErrNone}, {"f3(X1001,f9)", api.ErrRange}, {"f2(X1001,f9)", api.ErrRange},

		// What is not of the form is told ahead of what Check says.
		{"f9(X1,X1,X1,X1)", api.ErrForm}, {"f4(X1001,X1,X1,X1)", api.ErrForm}, {"f3(f9,X1001", api.ErrForm}, {"X1001 ", api.ErrForm}, {"f9)", api.ErrForm},
		{towerText(119), api.OK}, {towerText(120), api.ErrMany}, {towerText(120) + ")", api.ErrForm}, {towerText(300), api.ErrMany},
		{"f3(" + towerText(118) + ",X1001)", api.ErrMany}, {"f3(" + towerText(117) + ",X1001)", api.ErrRange},
		{"f9(" + towerText(120) + ",X1,X1,X1)", api.ErrForm},

		// More bytes than may be, ahead of the form.
		{strings.Repeat("f2(", 999) + "f1)", api.ErrForm}, {strings.Repeat("(", 3000), api.ErrForm}, {strings.Repeat("(", 3001), api.ErrMany}, {strings.Repeat("\xff", 5000), api.ErrMany},
		{towerText(749) + ")", api.ErrForm}, {towerText(749), api.ErrMany}, {"f1" + strings.Repeat(" ", 2999), api.ErrMany},
	} {
		x, e := ParseTerm(small(), c.s)
		if e != c.want {
			t.Errorf("%.60q: %d, not %d", c.s, e, c.want)
		}
		if e != api.OK && !sameTerm(x, api.Term{}) {
			t.Errorf("%.60q: %v with an error", c.s, x)
		}
	}
}

func TestB2ErrorsOfParseClause(t *testing.T) {
	nine := strings.Repeat("X1 = f0 | ", 8) + "X1 = f0"
	for _, c := range []struct {
		s    string
		want api.Errno
	}{
		{"", api.ErrForm}, {"$", api.ErrForm}, {"$true", api.ErrForm}, {"$fals", api.ErrForm}, {"$false ", api.ErrForm}, {" $false", api.ErrForm}, {"$false$false", api.ErrForm}, {"$False", api.ErrForm},
		{"$false | f0 = f0", api.ErrForm}, {"f0 = f0 | $false", api.ErrForm},
		{"f0", api.ErrForm}, {"f0 =", api.ErrForm}, {"f0 = ", api.ErrForm}, {" = f0", api.ErrForm}, {"f0 f0", api.ErrForm}, {"f0f0", api.ErrForm}, {"f0X1", api.ErrForm}, {"f0 = f0f0 = f0", api.ErrForm}, {"f0 = f0 = f0", api.ErrForm},
		{"f0=f0", api.ErrForm}, {"f0 =f0", api.ErrForm}, {"f0= f0", api.ErrForm}, {"f0  = f0", api.ErrForm}, {"f0 =  f0", api.ErrForm}, {"f0\t=\tf0", api.ErrForm}, {"f0 == f0", api.ErrForm}, {"f0 ! = f0", api.ErrForm}, {"f0 !== f0", api.ErrForm}, {"f0 !f0", api.ErrForm}, {"f0!=f0", api.ErrForm}, {"f0 <> f0", api.ErrForm},
		{"f0 = f0|f0 = f0", api.ErrForm}, {"f0 = f0 |f0 = f0", api.ErrForm}, {"f0 = f0| f0 = f0", api.ErrForm}, {"f0 = f0 || f0 = f0", api.ErrForm}, {"f0 = f0 |  | f0 = f0", api.ErrForm}, {"f0 = f0 | ", api.ErrForm}, {"f0 = f0 |", api.ErrForm}, {" | f0 = f0", api.ErrForm}, {"f0 = f0 & f0 = f0", api.ErrForm}, {"f0 = f0 | f0", api.ErrForm},
		{"f0 = f0 ", api.ErrForm}, {" f0 = f0", api.ErrForm}, {"f0 = f0\n", api.ErrForm}, {"f0 = X0", api.ErrForm}, {"f0 = f01", api.ErrForm},
		{"f0 = X1000", api.OK}, {"X1001 = f9", api.ErrRange}, {"f9 = X1001", api.ErrNone}, {"f0 = f2 | f9 = f0", api.ErrForm}, {"f0 = f0 | f0 != f9", api.ErrNone},
		{nine, api.ErrMany}, {nine[10:], api.OK}, {nine + " ", api.ErrForm}, {nine + " | X1 = f9(X1001)", api.ErrMany}, {"X1001 = f9 | " + nine, api.ErrMany},
		{"f0 = f9(X1,X1,X1,X1)", api.ErrForm}, {"X1001 = f0 | f0", api.ErrForm},
		{towerText(119) + " = f0", api.OK}, {"f0 != " + towerText(120), api.ErrMany}, {"f9 != " + towerText(120), api.ErrNone},
		{strings.Repeat("f0 = f0 | ", 299) + "f0 = f10", api.ErrMany}, {strings.Repeat("f0 = f0 | ", 299) + "f0 = f0 ", api.ErrForm},
		{strings.Repeat(" ", 3000), api.ErrForm}, {strings.Repeat(" ", 3001), api.ErrMany},
	} {
		x, e := ParseClause(small(), c.s)
		if e != c.want {
			t.Errorf("%.60q: %d, not %d", c.s, e, c.want)
		}
		if e != api.OK && len(x) != 0 {
			t.Errorf("%.60q: %v with an error", c.s, x)
		}
	}
}

func TestB2SignatureFirst(t *testing.T) {
	for _, s := range []string{"", "X1", "$false", "X1 = X1", strings.Repeat("(", 4000)} {
		for _, c := range []struct {
			g    api.Signature
			want api.Errno
		}{
			{api.Signature{Arity: []int{4}}, api.ErrRange},
			{api.Signature{Arity: make([]int, 13)}, api.ErrMany},
		} {
			x, e := ParseTerm(c.g, s)
			y, h := ParseClause(c.g, s)
			if e != c.want || h != c.want || !sameTerm(x, api.Term{}) || len(y) != 0 {
				t.Errorf("%.20q: %d %d, not %d", s, e, h, c.want)
			}
		}
	}
}

// TestB2JustSoManyBytes: a text of 3000 bytes is read; one digit more, and it is not, though it was written.
func TestB2JustSoManyBytes(t *testing.T) {
	long := slices.Repeat(api.Clause{yes(tower(52), tower(52))}, 7)
	long = append(long, yes(tower(2), v(1000)))
	s, e := Clause(small(), long)
	if len(s) != 3000 || e != api.OK {
		t.Fatalf("the test's own text: %d bytes, %d", len(s), e)
	}
	if c, e := ParseClause(small(), s); !sameClause(c, long) || e != api.OK {
		t.Errorf("3000 bytes: %d", e)
	}
	longer := append(slices.Clone(long[:7]), yes(tower(3), v(1)))
	s, e = Clause(small(), longer)
	if len(s) != 3001 || e != api.OK {
		t.Fatalf("the test's own text: %d bytes, %d", len(s), e)
	}
	if c, e := ParseClause(small(), s); len(c) != 0 || e != api.ErrMany {
		t.Errorf("3001 bytes: %d", e)
	}
}

// draw: numbers for tests, the same each time.
type draw uint64

func (d *draw) n(n int) int {
	*d = *d*6364136223846793005 + 1442695040888963407
	return int(uint64(*d) >> 33 % uint64(n))
}

func (d *draw) term(g api.Signature, deep int) api.Term {
	if d.n(4) == 0 {
		return v(1 + d.n(1+d.n(api.MaxVar)))
	}
	fn := d.n(len(g.Arity))
	for deep == 0 && g.Arity[fn] > 0 {
		fn = d.n(len(g.Arity))
	}
	x := f(fn)
	for range g.Arity[fn] {
		x.Args = append(x.Args, d.term(g, deep-1))
	}
	return x
}

func TestB3WhatIsWrittenIsRead(t *testing.T) {
	d := new(draw)
	for range 3000 {
		x := d.term(full(), 4)
		s, e := Term(full(), x)
		y, h := ParseTerm(full(), s)
		if e != h || e == api.OK && !sameTerm(x, y) {
			t.Fatalf("%v: %q %d; %v %d", x, s, e, y, h)
		}
	}
	for range 1000 {
		var c api.Clause
		for range d.n(9) {
			c = append(c, api.Literal{Yes: d.n(2) == 0, A: d.term(full(), 2), B: d.term(full(), 2)})
		}
		s, e := Clause(full(), c)
		x, h := ParseClause(full(), s)
		if e != api.OK || h != api.OK || !sameClause(c, x) {
			t.Fatalf("%v: %q %d; %v %d", c, s, e, x, h)
		}
	}
}

// ofForm: is it a text of a term, by whatever functions? Told otherwise than by the program: names first, then brackets from within.
func ofForm(s string) bool {
	if strings.ContainsAny(s, "tg") {
		return false
	}
	s = variables.ReplaceAllString(s, "t")
	s = functions.ReplaceAllString(s, "g")
	for was := ""; was != s; {
		was = s
		s = alone.ReplaceAllString(s, "t$1")
	}
	for was := ""; was != s; {
		was = s
		s = brackets.ReplaceAllString(s, "t")
	}
	return s == "t"
}

var (
	variables = regexp.MustCompile(`X[1-9][0-9]{0,8}`)
	functions = regexp.MustCompile(`f(0|[1-9][0-9]{0,8})`)
	alone     = regexp.MustCompile(`g([^(]|$)`)
	brackets  = regexp.MustCompile(`g\(t(,t){0,2}\)`)
)

// readsJust: what is read of a text must be written as that text again, and what is not of the form is refused as such.
func readsJust(t *testing.T, g api.Signature, s string) {
	x, e := ParseTerm(g, s)
	if e == api.OK {
		if u, h := Term(g, x); u != s || h != api.OK {
			t.Errorf("%q is read, and written %q %d", s, u, h)
		}
	}
	if form := ofForm(s); !form && e != api.ErrForm {
		t.Errorf("%q is not of the form: %d", s, e)
	}
}

func TestB3NothingElseIsRead(t *testing.T) {
	g := api.Signature{Arity: []int{0, 1}}
	texts := []string{""}
	read := 0
	for range 6 {
		var longer []string
		for _, s := range texts {
			for _, b := range []byte("Xf01(),") {
				longer = append(longer, s+string(b))
			}
		}
		texts = longer
		for _, s := range texts {
			readsJust(t, g, s)
			if _, e := ParseTerm(g, s); e == api.OK {
				read++
			}
		}
	}
	// f0; X1; X10, X11; X100 to X111; X1000; f1(f0), f1(X1): f1(X10) has 7 bytes.
	if want := 1 + 1 + 2 + 4 + 1 + 2; read != want {
		t.Errorf("%d texts are read, not %d", read, want)
	}
}

func TestB3ChangedTexts(t *testing.T) {
	for _, s := range []string{"X1000", "f4(X1,f3(X23,f0),f2(f1))", "f2(f2(X9))", "f3(f3(f0,f1),X10)"} {
		for i := range len(s) + 1 {
			if i < len(s) {
				readsJust(t, small(), s[:i]+s[i+1:])
			}
			for b := range 256 {
				readsJust(t, small(), s[:i]+string([]byte{byte(b)})+s[i:])
				if i < len(s) {
					readsJust(t, small(), s[:i]+string([]byte{byte(b)})+s[i+1:])
				}
			}
		}
	}
}

func TestB3ChangedClauses(t *testing.T) {
	for _, s := range []string{"$false", "f0 = f1", "f2(X1) != f0 | X12 = f3(f0,X1)"} {
		for i := range len(s) + 1 {
			for cut := range len(s) - i + 1 {
				readsJustClause(t, s[:i]+s[i+cut:])
				for b := range 256 {
					readsJustClause(t, s[:i]+string([]byte{byte(b)})+s[i+cut:])
				}
			}
		}
	}
}

func readsJustClause(t *testing.T, s string) {
	c, e := ParseClause(small(), s)
	if e != api.OK {
		return
	}
	if u, h := Clause(small(), c); u != s || h != api.OK {
		t.Errorf("%q is read, and written %q %d", s, u, h)
	}
}

func TestOnlyWhatGivesUpIsRecovered(t *testing.T) {
	defer func() {
		if p := recover(); p != "another" {
			t.Errorf("%v came out", p)
		}
	}()
	read("X1", func(*reader) { panic("another") })
	t.Error("nothing came out")
}
