package matrix

import (
	"dovetail/api"
	"dovetail/ends"
	"dovetail/sets"
)

// place is where a relation is found: a rule and a place in its right side, as a Reason has them, and of Yields and Takes the nonterminal that stands beside it, whose chain is the Reason's.
type place struct {
	rule    int
	at      int
	nonterm int
}

// finding is told a relation of two terminals, and a place where it is found.
type finding func(relation, a, b int, where place)

// relate tells the relations of a grammar, each once for each of its reasons, those of one pair from the least rule and place on.
func relate(g api.Grammar, e ends.Ends, tell finding) {
	end := len(g.Terms)
	whole := place{rule: -1, nonterm: g.Axiom}
	for b := range sets.Each(e.Left[g.Axiom]) {
		tell(api.Yields, end, b, whole)
	}
	for a := range sets.Each(e.Right[g.Axiom]) {
		tell(api.Takes, a, end, whole)
	}
	for n, r := range g.Rules {
		for at, symbol := range r.Right {
			if symbol >= 0 {
				around(r.Right, e, place{rule: n, at: at}, tell)
			}
		}
	}
}

// around tells the relations that have the terminal at a place of a right side as the one at which their reason stands.
func around(right []int, e ends.Ends, where place, tell finding) {
	term := right[where.at]
	if ahead := right[:where.at]; len(ahead) > 0 && ahead[len(ahead)-1] < 0 {
		n := -1 - ahead[len(ahead)-1]
		for a := range sets.Each(e.Right[n]) {
			tell(api.Takes, a, term, place{where.rule, where.at, n})
		}
	}
	behind := right[where.at+1:]
	if len(behind) > 0 && behind[0] < 0 {
		n := -1 - behind[0]
		for b := range sets.Each(e.Left[n]) {
			tell(api.Yields, term, b, place{where.rule, where.at, n})
		}
		behind = behind[1:]
	}
	if len(behind) > 0 && behind[0] >= 0 {
		tell(api.Equal, term, behind[0], where)
	}
}

// Reason: see chapter 9.
type Reason struct {
	Rule  int
	At    int
	Chain []int
}

// Why: P9.5.
func Why(g api.Grammar, a, b, relation int) (Reason, error) {
	e, err := ends.Of(g)
	if err != nil {
		return Reason{}, err
	}
	end := len(g.Terms)
	if a < 0 || a > end || b < 0 || b > end || relation < api.Yields || relation > api.Takes {
		return Reason{}, api.ErrArg
	}
	s := search{a: a, b: b, relation: relation}
	relate(g, e, s.keep)
	if !s.found {
		return Reason{}, api.ErrNone
	}
	return s.reason(g)
}

// search is for the first place at which a relation of two terminals is found.
type search struct {
	a, b, relation int
	found          bool
	first          place
}

// keep is a finding.
func (s *search) keep(relation, a, b int, where place) {
	if !s.found && relation == s.relation && a == s.a && b == s.b {
		s.found, s.first = true, where
	}
}

// reason is the one of the place that was found.
func (s *search) reason(g api.Grammar) (Reason, error) {
	why := Reason{Rule: s.first.rule, At: s.first.at}
	var err error
	switch s.relation {
	case api.Yields:
		why.Chain, err = ends.Chain(g, s.first.nonterm, s.b, false)
	case api.Takes:
		why.Chain, err = ends.Chain(g, s.first.nonterm, s.a, true)
	}
	if err != nil {
		return Reason{}, err
	}
	return why, nil
}
