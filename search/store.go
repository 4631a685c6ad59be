package search

import (
	"superpose/api"
	"superpose/clause"
	"superpose/term"
)

// mostWork is how many variables and functions, about, a search may have to do with: fuel alone would let it go on for long with great clauses, of which much comes.
const mostWork = 1 << 18

// What has become of a clause.
const (
	waits  int8 = iota
	looked      // it is looked at: all that comes of it, alone and with others that are, is kept, or said
	gone        // others say it
)

// entry: a clause, and what is known of it.
type entry struct {
	clause api.Clause
	weight int           // how many variables and functions it has
	from   api.Inference // by which it came, if it was not handed in
	is     int8
}

// store of clauses: of those that are not gone none says what another one does.
type store struct {
	g     api.Signature
	list  []entry // those that were handed in, then what came
	given int     // how many were handed in
	work  int     // how much it may still do
}

// numbered: the clause tidied, if that only numbers its variables anew: a proof tells of its literals as they stand.
func numbered(g api.Signature, c api.Clause) api.Clause {
	if tidied, _ := clause.Tidy(g, c); len(tidied) == len(c) {
		return tidied
	}
	return c
}

func newEntry(g api.Signature, c api.Clause, from api.Inference) entry {
	x := entry{clause: c, from: from}
	for _, l := range c {
		a, _ := term.Size(g, l.A)
		b, _ := term.Size(g, l.B)
		x.weight += a + b
	}
	return x
}

// give: keep a clause of the list that was handed in, which has its number even if others say it.
func (s *store) give(c api.Clause) {
	x := newEntry(s.g, numbered(s.g, c), api.Inference{})
	if s.says(x) {
		x.is = gone
	}
	s.add(x)
	s.given++
}

// keep a clause that came, if it is new.
func (s *store) keep(c api.Clause, from api.Inference) {
	x := newEntry(s.g, c, from)
	if s.work -= x.weight; !s.says(x) {
		s.add(x)
	}
}

// says: is a clause Always, or does one that is not gone say it?
func (s *store) says(x entry) bool {
	if always, _ := clause.Always(s.g, x.clause); always {
		return true
	}
	for _, y := range s.list {
		if y.is != gone && s.fits(y.clause, x.clause, bound{}) {
			return true
		}
	}
	return false
}

// add a clause, and let go of those that it says.
func (s *store) add(x entry) {
	for n, y := range s.list {
		if x.is != gone && y.is != gone && s.fits(x.clause, y.clause, bound{}) {
			s.list[n].is = gone
		}
	}
	s.list = append(s.list, x)
}
