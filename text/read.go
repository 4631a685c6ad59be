package text

import (
	"strconv"
	"strings"

	"superpose/api"
)

const (
	maxBytes  = 3000
	maxDigits = 9
)

// noText is what reading gives up with.
type noText struct{}

// reader holds what of a text is not read yet.
type reader struct{ rest string }

// read a whole text by what: ErrForm, if it gives up, or something is left.
func read(s string, what func(r *reader)) (e api.Errno) {
	if len(s) > maxBytes {
		return api.ErrMany
	}
	defer func() {
		p := recover()
		if p == nil {
			return
		}
		if _, ok := p.(noText); !ok {
			// A fault of the program's own must not pass for a text that is wrong.
			panic(p)
		}
		e = api.ErrForm
	}()
	r := reader{rest: s}
	what(&r)
	r.ask(r.rest == "")
	return api.OK
}

// ask that something is so, and give up, if it is not.
func (r *reader) ask(so bool) {
	if !so {
		panic(noText{})
	}
}

// take a word, if it is next.
func (r *reader) take(word string) bool {
	rest, ok := strings.CutPrefix(r.rest, word)
	r.rest = rest
	return ok
}

func (r *reader) clause() api.Clause {
	if r.take(emptyClause) {
		return nil
	}
	c := api.Clause{r.literal()}
	for r.take(or) {
		c = append(c, r.literal())
	}
	return c
}

func (r *reader) literal() api.Literal {
	l := api.Literal{A: r.term()}
	l.Yes = r.take(same)
	r.ask(l.Yes || r.take(notSame))
	l.B = r.term()
	return l
}

func (r *reader) term() api.Term {
	if r.take(variable) {
		n := r.number()
		// Variables are numbered from 1 on: X0 is the text of nothing, not of a variable that is out of range.
		r.ask(n > 0)
		return api.Term{Var: n}
	}
	r.ask(r.take(function))
	t := api.Term{Fn: r.number()}
	if r.take(open) {
		t.Args = r.arguments()
	}
	return t
}

func (r *reader) arguments() []api.Term {
	args := []api.Term{r.term()}
	for r.take(comma) {
		r.ask(len(args) < api.MaxArity)
		args = append(args, r.term())
	}
	r.ask(r.take(shut))
	return args
}

func (r *reader) number() int {
	after := strings.TrimLeft(r.rest, "0123456789")
	digits := r.rest[:len(r.rest)-len(after)]
	r.ask(len(digits) > 0 && len(digits) <= maxDigits)
	r.ask(digits == "0" || digits[0] != '0')
	r.rest = after
	n, err := strconv.Atoi(digits)
	r.ask(err == nil)
	return n
}
