package matrix_test

import (
	"strings"

	"dovetail/api"
	"dovetail/ends"
	"dovetail/matrix"
	"dovetail/probe"
)

// symbolAt is the symbol at a place of a right side, and whether there is one.
func symbolAt(right []int, at int) (int, bool) {
	if at < 0 || at >= len(right) {
		return 0, false
	}
	return right[at], true
}

// isTerm tells whether that terminal stands at a place of a right side.
func isTerm(right []int, at, term int) bool {
	symbol, ok := symbolAt(right, at)
	return ok && symbol == term
}

// nontermAt is the nonterminal at a place of a right side, and whether one stands there.
func nontermAt(right []int, at int) (int, bool) {
	symbol, ok := symbolAt(right, at)
	return -1 - symbol, ok && symbol < 0
}

// reasonAt is the reason of a relation at a place of a rule, and whether there is one, as the chapter's section 'Words' says it.
func reasonAt(g api.Grammar, a, b, relation, rule, at int) (matrix.Reason, bool) {
	right := g.Rules[rule].Right
	switch relation {
	case api.Equal:
		_, between := nontermAt(right, at+1)
		near := isTerm(right, at+1, b) || between && isTerm(right, at+2, b)
		return matrix.Reason{Rule: rule, At: at}, isTerm(right, at, a) && near
	case api.Yields:
		n, ok := nontermAt(right, at+1)
		if !ok || !isTerm(right, at, a) {
			return matrix.Reason{}, false
		}
		chain, err := ends.Chain(g, n, b, false)
		return matrix.Reason{Rule: rule, At: at, Chain: chain}, err == nil
	default:
		n, ok := nontermAt(right, at-1)
		if !ok || !isTerm(right, at, b) {
			return matrix.Reason{}, false
		}
		chain, err := ends.Chain(g, n, a, true)
		return matrix.Reason{Rule: rule, At: at, Chain: chain}, err == nil
	}
}

// endReason is the reason of a relation with the end.
func endReason(g api.Grammar, a, b, relation int) (matrix.Reason, bool) {
	var chain []int
	err := api.ErrNone
	switch end := len(g.Terms); {
	case relation == api.Yields && a == end:
		chain, err = ends.Chain(g, g.Axiom, b, false)
	case relation == api.Takes && b == end:
		chain, err = ends.Chain(g, g.Axiom, a, true)
	}
	return matrix.Reason{Rule: -1, Chain: chain}, err == nil
}

// reasonOf is the reason of a relation, and whether there is one: the first of all rules and places.
func reasonOf(g api.Grammar, a, b, relation int) (matrix.Reason, bool) {
	if why, ok := endReason(g, a, b, relation); ok {
		return why, true
	}
	for rule, r := range g.Rules {
		for at := range r.Right {
			if why, ok := reasonAt(g, a, b, relation, rule, at); ok {
				return why, true
			}
		}
	}
	return matrix.Reason{}, false
}

// table tells of each pair, in the pairs' order, which relations hold: by the relation's number.
type table [][api.Takes + 1]bool

// tableOf are the relations of a grammar, as the chapter's section 'Words' says them.
func tableOf(g api.Grammar, e ends.Ends) table {
	terms := len(g.Terms) + 1
	list := make(table, terms*terms)
	for b := range g.Terms {
		list[len(g.Terms)*terms+b][api.Yields] = e.Left[g.Axiom]>>b&1 == 1
		list[b*terms+len(g.Terms)][api.Takes] = e.Right[g.Axiom]>>b&1 == 1
	}
	for a := range g.Terms {
		for b := range g.Terms {
			for _, r := range g.Rules {
				for at := range r.Right {
					holdsAt(&list[a*terms+b], r.Right[at:], e, a, b)
				}
			}
		}
	}
	for k, of := range list {
		list[k][api.None] = !of[api.Yields] && !of[api.Equal] && !of[api.Takes]
	}
	return list
}

// holdsAt puts to the relations of two terminals those that the first symbols of a right side's rest make.
func holdsAt(of *[api.Takes + 1]bool, rest []int, e ends.Ends, a, b int) {
	if len(rest) < 2 {
		return
	}
	first, second := rest[0], rest[1]
	switch {
	case first == a && second == b:
		of[api.Equal] = true
	case first == a && second < 0:
		of[api.Yields] = of[api.Yields] || e.Left[-1-second]>>b&1 == 1
		of[api.Equal] = of[api.Equal] || len(rest) > 2 && rest[2] == b
	case first < 0 && second == b:
		of[api.Takes] = of[api.Takes] || e.Right[-1-first]>>a&1 == 1
	}
}

// tableFrom are the relations that a matrix tells.
func tableFrom(m *matrix.Matrix) table {
	var list table
	for a := range m.Terms() {
		for b := range m.Terms() {
			var of [api.Takes + 1]bool
			for relation := range of {
				of[relation] = m.Holds(a, b, relation)
			}
			list = append(list, of)
		}
	}
	return list
}

// drawn is a table as text: a row for each first terminal, parted by ;, and in it for each second one the relations, < = >, or . for none.
func drawn(list table, terms int) string {
	var text strings.Builder
	for k, of := range list {
		switch {
		case k == 0:
		case k%terms == 0:
			text.WriteString("; ")
		default:
			text.WriteString(" ")
		}
		for relation, sign := range []string{".", "<", "=", ">"} {
			if of[relation] {
				text.WriteString(sign)
			}
		}
	}
	return text.String()
}

// mixed is a grammar that may be, of few symbols: some in operator form, some not; with empty right sides, renamings and nonterminals without rules.
func mixed(n *probe.Numbers) api.Grammar {
	g := api.Grammar{Terms: probe.Letters('a', n.Below(6)), Nonterms: probe.Letters('A', 1+n.Below(5))}
	g.Axiom = n.Below(len(g.Nonterms))
	operator := n.Below(2) == 0
	for range n.Below(9) {
		r := probe.Rule(n.Below(len(g.Nonterms)))
		for range n.Below(7) {
			symbol := -1 - n.Below(len(g.Nonterms))
			after := len(r.Right) > 0 && r.Right[len(r.Right)-1] < 0
			if len(g.Terms) > 0 && (n.Below(2) == 0 || operator && after) {
				symbol = n.Below(len(g.Terms))
			}
			r.Right = append(r.Right, symbol)
		}
		g.Rules = append(g.Rules, r)
	}
	return g
}

func manyGrammars() []api.Grammar {
	var list []api.Grammar
	var n probe.Numbers
	for range 4000 {
		list = append(list, mixed(&n))
	}
	return list
}

// smallGrammars are, but for the order of rules, all of one rule of up to five symbols and all of two rules of up to two symbols, over the nonterminals A and B and the terminals a and b; and all of three rules of up to three symbols, over A and a.
func smallGrammars() []api.Grammar {
	g := api.Grammar{Terms: probe.Letters('a', 2), Nonterms: probe.Letters('A', 2)}
	list := probe.WithRules(g, 1, probe.RulesOf(2, probe.Sides(5, -2, -1, 0, 1)...))
	list = append(list, probe.WithRules(g, 2, probe.RulesOf(2, probe.Sides(2, -2, -1, 0, 1)...))...)
	g = api.Grammar{Terms: probe.Letters('a', 1), Nonterms: probe.Letters('A', 1)}
	return append(list, probe.WithRules(g, 3, probe.RulesOf(1, probe.Sides(3, -1, 0)...))...)
}

// wide is a grammar of the most symbols and rules, of up to the most terminals; right sides have up to 32 symbols.
func wide(n *probe.Numbers) api.Grammar {
	nonterms := 1 + n.Below(1+n.Below(40))
	g := api.Grammar{Terms: probe.Names("t", api.MaxSymbols-nonterms), Nonterms: probe.Names("n", nonterms)}
	g.Axiom = n.Below(nonterms)
	for range api.MaxSource {
		r := probe.Rule(n.Below(nonterms))
		for range n.Below(1 + n.Below(api.MaxRight+1)) {
			symbol := n.Below(len(g.Terms))
			if n.Below(3) == 0 {
				symbol = -1 - n.Below(nonterms)
			}
			r.Right = append(r.Right, symbol)
		}
		g.Rules = append(g.Rules, r)
	}
	return g
}

func wideGrammars() []api.Grammar {
	var list []api.Grammar
	var n probe.Numbers
	for range 40 {
		list = append(list, wide(&n))
	}
	return list
}
