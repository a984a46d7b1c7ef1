package probe

import (
	"slices"

	"dovetail/api"
	"dovetail/gram"
)

// Roomy is a grammar in new memory with spare room for one more behind each of its lists, which holds what a call that went too far would take for more of the list.
func Roomy(g api.Grammar) api.Grammar {
	g = gram.Copy(g)
	g.Terms = append(g.Terms, "spare")[:len(g.Terms)]
	g.Nonterms = append(g.Nonterms, "spare")[:len(g.Nonterms)]
	for n, r := range g.Rules {
		g.Rules[n].Right = append(r.Right, -1)[:len(r.Right)]
	}
	g.Rules = append(g.Rules, Rule(0))[:len(g.Rules)]
	return g
}

// Whole is a roomy grammar with its spare room as parts of its lists.
func Whole(g api.Grammar) api.Grammar {
	g.Terms = g.Terms[:len(g.Terms)+1]
	g.Nonterms = g.Nonterms[:len(g.Nonterms)+1]
	g.Rules = slices.Clone(g.Rules[:len(g.Rules)+1])
	for n, r := range g.Rules {
		if cap(r.Right) > len(r.Right) {
			g.Rules[n].Right = r.Right[:len(r.Right)+1]
		}
	}
	return g
}

// Apart tells whether no two lists share memory, the room behind them neither.
func Apart[T any](lists ...[]T) bool {
	owners := make(map[*T]int)
	for owner, list := range lists {
		list = list[:cap(list)]
		for i := range list {
			if _, ok := owners[&list[i]]; ok {
				return false
			}
			owners[&list[i]] = owner
		}
	}
	return true
}

// GrammarsApart tells whether no two lists of all these grammars share memory, the room behind them neither.
func GrammarsApart(grammars ...api.Grammar) bool {
	var names [][]string
	var rules [][]api.Rule
	var sides [][]int
	for _, g := range grammars {
		names = append(names, g.Terms, g.Nonterms)
		rules = append(rules, g.Rules)
		for _, r := range g.Rules {
			sides = append(sides, r.Right)
		}
	}
	return Apart(names...) && Apart(rules...) && Apart(sides...)
}
