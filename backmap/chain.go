package backmap

import (
	"slices"

	"dovetail/api"
	"dovetail/gram"
)

// chain is a row of renamings, and the nonterminal to which it leads.
type chain struct {
	rules []int
	to    int
}

// chains are, for each nonterminal to which one comes, the shortest chain, of these the least list of rules. Shorter ones stand ahead of longer ones, of one length the least lists first.
func chains(g api.Grammar, from int) []chain {
	list := []chain{{to: from}}
	known := make([]bool, len(g.Nonterms))
	known[from] = true
	for at := 0; at < len(list); at++ {
		c := list[at]
		for k, r := range g.Rules {
			to, renaming := gram.Renaming(r)
			if renaming && r.Left == c.to && !known[to] {
				known[to] = true
				list = append(list, chain{rules: with(c.rules, k), to: to})
			}
		}
	}
	return list
}

// with is a list in new memory with a rule more.
func with(rules []int, rule int) []int { return append(slices.Clip(rules), rule) }
