package opform_test

import (
	"slices"
	"strings"

	"dovetail/api"
	"dovetail/opform"
	"dovetail/probe"
)

// kinds is a right side with an n for each nonterminal and a t for each terminal.
func kinds(right []int) string {
	var text strings.Builder
	for _, symbol := range right {
		kind := byte('t')
		if symbol < 0 {
			kind = 'n'
		}
		text.WriteByte(kind)
	}
	return text.String()
}

// faultsOf are all faults of a grammar, as the chapter's section 'Words' says them.
func faultsOf(g api.Grammar) []opform.Fault {
	var list []opform.Fault
	for n, r := range g.Rules {
		k := kinds(r.Right)
		for at := range max(len(k), 1) {
			if k == "" || at > 0 && k[at-1:at+1] == "nn" {
				list = append(list, opform.Fault{Rule: n, At: at})
			}
		}
	}
	return list
}

// skeletonOf is a skeleton, symbol by symbol.
func skeletonOf(right []int) []int {
	var list []int
	for _, symbol := range right {
		list = append(list, max(symbol, -1))
	}
	return list
}

// placed is a terminal and the place where it stands.
type placed struct{ at, term int }

// termsOf are the terminals of a right side.
func termsOf(right []int) []placed {
	var list []placed
	for at, symbol := range right {
		if symbol >= 0 {
			list = append(list, placed{at, symbol})
		}
	}
	return list
}

// mixed is a grammar that may be. In most rules terminals and nonterminals stand by turns, so that about half of the grammars are in operator form; right sides have up to 32 symbols, and many have one skeleton.
func mixed(n *probe.Numbers) api.Grammar {
	g := api.Grammar{Terms: probe.Names("t", 1+n.Below(4)), Nonterms: probe.Names("n", 1+n.Below(4))}
	rough := n.Below(2) == 0
	for range n.Below(20) {
		r := rule(n.Below(len(g.Nonterms)))
		size := 1 + n.Below(5)
		if n.Below(4) == 0 {
			size = 1 + n.Below(api.MaxRight)
		}
		turn := n.Below(2)
		for at := range size {
			symbol := n.Below(len(g.Terms))
			if at%2 == turn {
				symbol = -1 - n.Below(len(g.Nonterms))
			}
			r.Right = append(r.Right, symbol)
		}
		if rough && n.Below(12) == 0 {
			r.Right[n.Below(size)] = -1
		}
		if rough && n.Below(40) == 0 {
			r.Right = nil
		}
		g.Rules = append(g.Rules, r)
	}
	return g
}

func manyGrammars() []api.Grammar {
	var list []api.Grammar
	var n probe.Numbers
	for range 6000 {
		list = append(list, mixed(&n))
	}
	return list
}

// smallGrammars are all of up to two rules with short right sides over two terminals and two nonterminals.
func smallGrammars() []api.Grammar {
	list := []api.Grammar{of()}
	some := probe.Sides(3, -2, -1, 0, 1)
	for _, first := range some {
		list = append(list, of(first))
		for _, second := range some {
			list = append(list, of(first, second))
		}
	}
	return list
}

// strange are grammars that may not be, whose rules have faults all the same.
func strange() []api.Grammar {
	long := slices.Repeat([]int{-1}, 1000)
	return []api.Grammar{
		{},
		{Rules: []api.Rule{{}, rule(7, -9, -8), rule(-7, 5, 6), rule(0, -1)}},
		{Axiom: -5, Rules: slices.Repeat([]api.Rule{rule(0, -1, 99, -1, -1), {Right: long}}, 200)},
		{Nonterms: probe.Names("n", 99), Terms: []string{"", ""}, Rules: []api.Rule{rule(0, -61, -62, 70), rule(0, 0), rule(0)}},
	}
}
