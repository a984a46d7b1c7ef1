package probe

import (
	"math"
	"slices"

	"dovetail/api"
)

// Node is a step of a tree, or a token: then its Symbol is 0 or above, its Step has the interval alone, and there are no Parts.
type Node struct {
	Symbol int
	Step   api.Step
	// Parts stand for the symbols of the right side, one for each.
	Parts []Node
}

// TreeOf is the root of the tree of these rules that a list of steps is, and whether it is one.
func TreeOf(rules []api.Rule, list []api.Step) (Node, bool) {
	root, rest, ok := nodeOf(rules, list)
	return root, ok && len(rest) == 0 && root.Step.From >= 0
}

// nodeOf is the root of the tree with which a list begins, and what stands behind that tree.
func nodeOf(rules []api.Rule, list []api.Step) (Node, []api.Step, bool) {
	if len(list) == 0 || list[0].Rule < 0 || list[0].Rule >= len(rules) {
		return Node{}, nil, false
	}
	rule := rules[list[0].Rule]
	of := Node{Symbol: -1 - rule.Left, Step: list[0]}
	list = list[1:]
	at := of.Step.From
	for _, symbol := range rule.Right {
		if at == math.MaxInt {
			return Node{}, nil, false
		}
		part := Node{Symbol: symbol, Step: api.Step{From: at, To: at + 1}}
		if symbol < 0 {
			ok := false
			if part, list, ok = nodeOf(rules, list); !ok || part.Symbol != symbol || part.Step.From != at {
				return Node{}, nil, false
			}
		}
		of.Parts = append(of.Parts, part)
		at = part.Step.To
	}
	return of, list, at == of.Step.To
}

// Tokens are a tree's, in their order.
func (n Node) Tokens() []int {
	var list []int
	n.each(func(of Node) {
		if of.Symbol >= 0 {
			list = append(list, of.Symbol)
		}
	})
	return list
}

// Steps are a tree's, each ahead of its parts.
func (n Node) Steps() []api.Step {
	var list []api.Step
	n.each(func(of Node) {
		if of.Symbol < 0 {
			list = append(list, of.Step)
		}
	})
	return list
}

// each goes through a tree, each node ahead of its parts.
func (n Node) each(meet func(Node)) {
	meet(n)
	for _, part := range n.Parts {
		part.each(meet)
	}
}

// Moved are steps in new memory at other places.
func Moved(list []api.Step, by int) []api.Step {
	list = slices.Clone(list)
	for k := range list {
		list[k].From += by
		list[k].To += by
	}
	return list
}

// SpoiledSteps are steps in new memory with one less, more, twice, at another place or otherwise other than it was; of that many rules.
func SpoiledSteps(n *Numbers, rules int, list []api.Step) []api.Step {
	list = slices.Clone(list)
	at := n.Below(len(list) + 1)
	other := api.Step{Rule: n.Below(rules+2) - 1, From: n.Below(9), To: n.Below(9)}
	if at == len(list) {
		return append(list, other)
	}
	switch n.Below(7) {
	case 0:
		return slices.Delete(list, at, at+1)
	case 1:
		return slices.Insert(list, at, list[n.Below(len(list))])
	case 2:
		return slices.Insert(list, at, other)
	case 3:
		list[at].Rule = other.Rule
	case 4:
		list[at].From += n.Below(3) - 1
	case 5:
		list[at].To += n.Below(3) - 1
	default:
		with := n.Below(len(list))
		list[at], list[with] = list[with], list[at]
	}
	return list
}

// MixedGrammars are that many grammars without empty right sides, whose axioms derive some rows, mostly not in operator form. Terminals' names have one byte.
func MixedGrammars(many int) []api.Grammar {
	var n Numbers
	var list []api.Grammar
	for len(list) < many {
		g := api.Grammar{Terms: Letters('a', 1+n.Below(4)), Nonterms: Letters('A', 1+n.Below(4))}
		g.Axiom = n.Below(len(g.Nonterms))
		for range 3 + n.Below(8) {
			r := Rule(n.Below(len(g.Nonterms)))
			for range 1 + n.Below(1+n.Below(5)) {
				r.Right = append(r.Right, n.Below(len(g.Terms)+len(g.Nonterms))-len(g.Nonterms))
			}
			g.Rules = append(g.Rules, r)
		}
		if d, ok := NewDeriver(g); ok && len(d.Row(&n, 8)) > 2 {
			list = append(list, g)
		}
	}
	return list
}
