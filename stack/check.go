package stack

import (
	"iter"
	"slices"

	"dovetail/api"
	"dovetail/tables"
)

// Check: P16.6.
func Check(t *tables.Tables, p api.Piece) error {
	switch {
	case t == nil:
		return api.ErrArg
	case p.To > api.MaxTokens:
		return api.ErrLong
	case !isRow(t, p) || !isOpen(t, p.Items) || !hasTrees(t, p):
		return api.ErrForm
	}
	return nil
}

// Relations: P16.6.
func Relations(t *tables.Tables, p api.Piece) ([]int, error) {
	if err := Check(t, p); err != nil {
		return nil, err
	}
	return slices.Collect(relations(t, p.Items)), nil
}

// isRow tells whether a piece's items stand one behind the other from its From to its To, with a terminal at both ends and no two nodes side by side. Which sets and intervals nodes may have, their trees tell.
func isRow(t *tables.Tables, p api.Piece) bool {
	if p.From < 0 {
		return false
	}
	at := p.From
	behindTerm := false
	for _, i := range p.Items {
		may := isTerm(t, i) || behindTerm && isNode(i)
		if !may || i.From != at {
			return false
		}
		behindTerm = !isNode(i)
		at = i.To
	}
	return at == p.To && (behindTerm || len(p.Items) == 0)
}

func isTerm(t *tables.Tables, i api.Item) bool {
	return i.Term >= 0 && i.Term < t.Terms() && i.Set == noSet && i.To == i.From+1
}

// isOpen tells whether each terminal has a relation to the next one, and there is no complete handle: then none Takes behind one that Yields.
func isOpen(t *tables.Tables, items []api.Item) bool {
	yields := false
	for relation := range relations(t, items) {
		if relation == api.None || relation == api.Takes && yields {
			return false
		}
		yields = yields || relation == api.Yields
	}
	return true
}

// relations is a sequence of the relations of each terminal to the next one.
func relations(t *tables.Tables, items []api.Item) iter.Seq[int] {
	return func(yield func(int) bool) {
		last := noTerm
		for _, i := range items {
			if isNode(i) {
				continue
			}
			if last != noTerm && !yield(t.Relation(last, i.Term)) {
				return
			}
			last = i.Term
		}
	}
}

// hasTrees tells whether a piece's steps are the trees of its nodes.
func hasTrees(t *tables.Tables, p api.Piece) bool {
	nodes, ok := roots(t, p.Steps)
	if !ok {
		return false
	}
	for _, i := range p.Items {
		if !isNode(i) {
			continue
		}
		last := len(nodes) - 1
		if last < 0 || nodes[last] != i {
			return false
		}
		nodes = nodes[:last]
	}
	return len(nodes) == 0
}

// roots are the nodes whose trees steps are, the last one first, and whether the steps are trees at all.
func roots(t *tables.Tables, steps []api.Step) ([]api.Item, bool) {
	// Most pieces are short, and the normal form is long and told in new memory each time.
	if len(steps) == 0 {
		return nil, true
	}
	rules := t.Normal().Rules
	var nodes []api.Item
	// From the last step on: so a step's children are there when it comes, the first one at the list's end.
	for _, step := range slices.Backward(steps) {
		if step.Rule < 0 || step.Rule >= len(rules) {
			return nil, false
		}
		rule := rules[step.Rule]
		rest, to, ok := over(rule.Right, step.From, nodes)
		if !ok || to != step.To {
			return nil, false
		}
		nodes = append(rest, api.Item{Term: noTerm, Set: rule.Left, From: step.From, To: step.To})
	}
	return nodes, true
}

// over is what a right side from a place on leaves of nodes, of which it takes its own from the list's end, and the place behind it.
func over(right []int, at int, nodes []api.Item) (rest []api.Item, to int, ok bool) {
	for _, symbol := range right {
		if symbol >= 0 {
			at++
			continue
		}
		last := len(nodes) - 1
		if last < 0 || symbolOf(nodes[last].Set) != symbol || nodes[last].From != at {
			return nil, 0, false
		}
		nodes, at = nodes[:last], nodes[last].To
	}
	return nodes, at, true
}
