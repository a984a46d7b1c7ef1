package backmap

import (
	"slices"

	"dovetail/api"
	"dovetail/gram"
	"dovetail/tables"
)

// fold makes the tree of the normal form out of a derivation. It goes from the last step to the first: so the row has the sets of what a step's children became, the first one's on top.
func fold(t *tables.Tables, derivation []api.Step) []api.Step {
	g := t.Grammar()
	var tree []api.Step
	var sets row[int]
	for _, s := range slices.Backward(derivation) {
		r := g.Rules[s.Rule]
		if _, renaming := gram.Renaming(r); renaming {
			// What its child became stands for it.
			continue
		}
		rule, _ := t.Find(folded(r.Right, &sets))
		set, _ := t.Left(rule)
		sets.put(set)
		tree = append(tree, api.Step{Rule: rule, From: s.From, To: s.To})
	}
	slices.Reverse(tree)
	return tree
}

// folded is a right side with sets, which it takes from the row, at its nonterminals' places.
func folded(side []int, sets *row[int]) []int {
	right := slices.Clone(side)
	for k, symbol := range side {
		if symbol < 0 {
			set, _ := sets.take()
			right[k] = -1 - set
		}
	}
	return right
}
