package tree

import (
	"testing"

	"superpose/api"
)

func v(n int) api.Term { return api.Term{Var: n} }

func f(n int, args ...api.Term) api.Term { return api.Term{Fn: n, Args: args} }

func TestSame(t *testing.T) {
	terms := []api.Term{v(1), v(2), f(0), f(1), f(2, v(1)), f(2, v(2)), f(2, f(0)), f(3, v(1), v(2)), f(3, v(2), v(1)), f(3, f(2, v(1)), v(1)), f(3, v(1))}
	for i, a := range terms {
		for k, b := range terms {
			if Same(a, Copy(b)) != (i == k) {
				t.Errorf("%v and %v", a, b)
			}
		}
	}
	if !Same(api.Term{Args: []api.Term{}}, api.Term{}) {
		t.Error("an empty list is none")
	}
}

func TestCopyIsNewMemory(t *testing.T) {
	shared := f(2, v(1))
	was := f(3, shared, shared)
	made := Copy(was)
	made.Args[0].Args[0] = v(7)
	if !Same(was, f(3, f(2, v(1)), f(2, v(1)))) || !Same(made, f(3, f(2, v(7)), f(2, v(1)))) {
		t.Errorf("%v %v", was, made)
	}
}
