package backmap

import (
	"slices"

	"dovetail/api"
	"dovetail/tables"
)

// isTree tells whether steps are a tree of the normal form over tokens. It goes from the last one to the first: so a step's children were gone through when it comes, and the row has them, the first one on top.
func isTree(t *tables.Tables, tokens []int, tree []api.Step) bool {
	n := t.Normal()
	var done row[api.Step]
	for _, s := range slices.Backward(tree) {
		if s.Rule < 0 || s.Rule >= len(n.Rules) || !isStep(n, tokens, &done, s) {
			return false
		}
		done.put(s)
	}
	root, some := done.take()
	_, more := done.take()
	return some && !more && t.Start(n.Rules[root.Rule].Left) && root.From == 0 && root.To == len(tokens)
}

// isStep tells whether the right side of a step is its tokens and the children that it takes from the row, one behind the other.
func isStep(n api.Normal, tokens []int, done *row[api.Step], s api.Step) bool {
	at := s.From
	for _, symbol := range n.Rules[s.Rule].Right {
		if symbol < 0 {
			child, some := done.take()
			if !some || n.Rules[child.Rule].Left != -1-symbol || child.From != at {
				return false
			}
			at = child.To
			continue
		}
		if at < 0 || at >= len(tokens) || tokens[at] != symbol {
			return false
		}
		at++
	}
	return at == s.To
}
