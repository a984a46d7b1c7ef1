package deriv

import (
	"math"

	"dovetail/api"
)

// grower makes the tree that rules have in their order: there is at most one.
type grower struct {
	of []api.Rule
	// rules are those that no step has yet.
	rules  []int
	steps  []api.Step
	tokens []int
	// depth is that of the deepest step so far.
	depth int
}

// grow makes the tree of a nonterminal from 0 on, of all the rules.
func grow(g api.Grammar, nonterm int, rules []int) *grower {
	t := &grower{of: g.Rules, rules: rules}
	t.node(nonterm, 1)
	want(len(t.rules) == 0, api.ErrTree)
	return t
}

// node grows the tree of a nonterminal at a depth.
func (t *grower) node(nonterm, depth int) {
	want(len(t.rules) > 0, api.ErrTree)
	rule := t.rules[0]
	want(rule >= 0 && rule < len(t.of) && t.of[rule].Left == nonterm, api.ErrTree)
	t.rules = t.rules[1:]
	t.depth = max(t.depth, depth)
	at := len(t.steps)
	t.steps = append(t.steps, api.Step{Rule: rule, From: len(t.tokens)})
	for _, symbol := range t.of[rule].Right {
		if symbol < 0 {
			t.node(-1-symbol, depth+1)
		} else {
			t.tokens = append(t.tokens, symbol)
		}
	}
	t.steps[at].To = len(t.tokens)
}

// known is what a derivation tree is grown as: the same, but from 0 on.
func known(g api.Grammar, tree []api.Step) *grower {
	limit(len(tree), MaxSteps)
	rules := rulesOf(tree)
	t := grow(g, rootOf(g, rules), rules)
	from := tree[0].From
	// Places so high that they would wrap round are no places.
	want(from >= 0 && from <= math.MaxInt-len(t.tokens), api.ErrTree)
	for k, s := range t.steps {
		want(tree[k] == api.Step{Rule: s.Rule, From: from + s.From, To: from + s.To}, api.ErrTree)
	}
	return t
}

func rulesOf(tree []api.Step) []int {
	rules := make([]int, len(tree))
	for k, s := range tree {
		rules[k] = s.Rule
	}
	return rules
}

// rootOf is the nonterminal of which a tree with these rules is one.
func rootOf(g api.Grammar, rules []int) int {
	want(len(rules) > 0 && rules[0] >= 0 && rules[0] < len(g.Rules), api.ErrTree)
	return g.Rules[rules[0]].Left
}
