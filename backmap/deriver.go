package backmap

import (
	"slices"

	"dovetail/api"
	"dovetail/tables"
)

// task is to derive a step with a rule of the normal form from a nonterminal.
type task struct{ rule, nonterm int }

// deriver makes derivation trees out of trees of the normal form.
type deriver struct {
	grammar api.Grammar
	normal  api.Normal
	// found are the rules by which tasks are done: renamings, and the rule behind them.
	found map[task][]int
}

func newDeriver(t *tables.Tables) *deriver {
	return &deriver{grammar: t.Grammar(), normal: t.Normal(), found: make(map[task][]int)}
}

// derive makes the derivation of a tree. The row has the nonterminals of the steps that are still to come, that of the next one on top.
func (d *deriver) derive(tree []api.Step) []api.Step {
	var derivation []api.Step
	var nonterms row[int]
	nonterms.put(d.grammar.Axiom)
	for _, s := range tree {
		nonterm, _ := nonterms.take()
		var last api.Rule
		for _, rule := range d.rules(task{s.Rule, nonterm}) {
			derivation = append(derivation, api.Step{Rule: rule, From: s.From, To: s.To})
			last = d.grammar.Rules[rule]
		}
		for _, symbol := range slices.Backward(last.Right) {
			if symbol < 0 {
				nonterms.put(-1 - symbol)
			}
		}
	}
	return derivation
}

// rules are those by which a task is done: searched for once, as a tree may have it many times.
func (d *deriver) rules(k task) []int {
	rules, known := d.found[k]
	if !known {
		rules = d.search(k)
		d.found[k] = rules
	}
	return rules
}

func (d *deriver) search(k task) []int {
	right := d.normal.Rules[k.rule].Right
	for _, c := range chains(d.grammar, k.nonterm) {
		for rule, r := range d.grammar.Rules {
			if r.Left == c.to && d.fits(r.Right, right) {
				return with(c.rules, rule)
			}
		}
	}
	return nil
}

// fits tells whether a right side of the grammar is one of those that a right side of the normal form stands for. No renaming is: a set alone is no such right side.
func (d *deriver) fits(side, right []int) bool {
	return slices.EqualFunc(side, right, func(symbol, of int) bool {
		if symbol < 0 && of < 0 {
			return d.normal.Sets[-1-of]>>(-1-symbol)&1 == 1
		}
		return symbol == of
	})
}
