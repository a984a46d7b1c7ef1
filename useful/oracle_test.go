package useful_test

import (
	"slices"
	"strings"

	"dovetail/api"
	"dovetail/probe"
)

// nontermsOf are the nonterminals of a right side.
func nontermsOf(right []int) api.Set {
	var found api.Set
	for _, symbol := range right {
		if symbol < 0 {
			found |= 1 << (-1 - symbol)
		}
	}
	return found
}

// keep are the rules that are wanted.
func keep(rules []api.Rule, wanted func(r api.Rule) bool) []api.Rule {
	var list []api.Rule
	for _, r := range rules {
		if wanted(r) {
			list = append(list, r)
		}
	}
	return list
}

// rooted are the nonterminals that have a tree: one of height h + 1 has at its root a rule all whose nonterminals have trees of height h. A least tree has no nonterminal twice on one way down, so none is higher than there are nonterminals.
func rooted(rules []api.Rule) api.Set {
	var found api.Set
	for range api.MaxSymbols {
		var higher api.Set
		for _, r := range rules {
			if nontermsOf(r.Right)&^found == 0 {
				higher |= 1 << r.Left
			}
		}
		found = higher
	}
	return found
}

// ledTo are the nonterminals to which there is a way by rules, of any length, from one of them.
func ledTo(from int, rules []api.Rule) api.Set {
	var leads [api.MaxSymbols]api.Set
	for n := range leads {
		leads[n] = 1 << n
	}
	for _, r := range rules {
		leads[r.Left] |= nontermsOf(r.Right)
	}
	for via := range leads {
		for n := range leads {
			if leads[n]>>via&1 == 1 {
				leads[n] |= leads[via]
			}
		}
	}
	return leads[from]
}

// usefulOf are the useful nonterminals, as the chapter's section 'Words' says it.
func usefulOf(g api.Grammar) api.Set {
	able := rooted(g.Rules)
	if able>>g.Axiom&1 == 0 {
		return 0
	}
	return able & ledTo(g.Axiom, keep(g.Rules, func(r api.Rule) bool { return nontermsOf(r.Right)&^able == 0 }))
}

// trimmed is a grammar without what is not useful: its axiom is to be. Numbers come out of the lists of those that stay.
func trimmed(g api.Grammar) api.Grammar {
	stay := usefulOf(g)
	rules := keep(g.Rules, func(r api.Rule) bool { return (nontermsOf(r.Right)|1<<r.Left)&^stay == 0 })
	var terms, nonterms []int
	var t api.Grammar
	for n, name := range g.Nonterms {
		if stay>>n&1 == 1 {
			nonterms = append(nonterms, n)
			t.Nonterms = append(t.Nonterms, name)
		}
	}
	for n, name := range g.Terms {
		if slices.ContainsFunc(rules, func(r api.Rule) bool { return slices.Contains(r.Right, n) }) {
			terms = append(terms, n)
			t.Terms = append(t.Terms, name)
		}
	}
	for _, r := range rules {
		turned := probe.Rule(slices.Index(nonterms, r.Left))
		for _, symbol := range r.Right {
			number := slices.Index(terms, symbol)
			if symbol < 0 {
				number = -1 - slices.Index(nonterms, -1-symbol)
			}
			turned.Right = append(turned.Right, number)
		}
		t.Rules = append(t.Rules, turned)
	}
	t.Axiom = slices.Index(nonterms, g.Axiom)
	return t
}

// least is the first of some rows, by length and then as a list; with terminals whose names rise as their numbers do.
func least(rows probe.Rows) (string, bool) {
	found, ok := "", false
	for row := range rows {
		if !ok || len(row) < len(found) || len(row) == len(found) && row < found {
			found, ok = row, true
		}
	}
	return found, ok
}

// spelt is a row of tokens as the terminals' names.
func spelt(g api.Grammar, row []int) string {
	var text strings.Builder
	for _, token := range row {
		text.WriteString(g.Terms[token])
	}
	return text.String()
}

// mixed is a grammar that may be, with rules of up to four symbols; some nonterminals are productive, some reached, some neither.
func mixed(n *probe.Numbers) api.Grammar {
	g := api.Grammar{Terms: probe.Letters('a', 1+n.Below(4)), Nonterms: probe.Letters('A', 1+n.Below(6))}
	g.Axiom = n.Below(len(g.Nonterms))
	for range n.Below(12) {
		r := probe.Rule(n.Below(len(g.Nonterms)))
		for range n.Below(5) {
			symbol := n.Below(len(g.Terms))
			if n.Below(5) < 3 {
				symbol = -1 - n.Below(len(g.Nonterms))
			}
			r.Right = append(r.Right, symbol)
		}
		g.Rules = append(g.Rules, r)
	}
	return g
}

func manyGrammars() []api.Grammar {
	var list []api.Grammar
	var n probe.Numbers
	for range 4000 {
		list = append(list, mixed(&n))
	}
	return list
}

// smallGrammars are all of up to three rules of up to two symbols, over two nonterminals and the terminals a and b (of three rules: a alone), whatever the order of rules.
func smallGrammars() []api.Grammar {
	var list []api.Grammar
	for axiom := range 2 {
		g := api.Grammar{Terms: probe.Letters('a', 2), Nonterms: probe.Letters('A', 2), Axiom: axiom}
		list = append(list, probe.WithRules(g, 2, probe.RulesOf(2, probe.Sides(2, -2, -1, 0, 1)...))...)
		g.Terms = probe.Letters('a', 1)
		list = append(list, probe.WithRules(g, 3, probe.RulesOf(2, probe.Sides(2, -2, -1, 0)...))...)
	}
	return list
}

// tall is a grammar whose nonterminals are made of those behind them, mostly two or three at a time, so that rows may be of any length, up to too long ones; renamings go back and forth, and some nonterminals derive no tokens.
func tall(n *probe.Numbers) api.Grammar {
	g := api.Grammar{Terms: probe.Letters('a', 3), Nonterms: probe.Letters('A', 8+n.Below(24))}
	last := len(g.Nonterms) - 1
	for left := range g.Nonterms {
		for range 1 + n.Below(4)/3 {
			r := probe.Rule(left)
			for range 1 + (n.Below(7)+2)/3 {
				symbol := -1 - min(left+1+n.Below(5)/4, last)
				if left == last || n.Below(15) == 0 {
					symbol = n.Below(len(g.Terms))
				}
				r.Right = append(r.Right, symbol)
			}
			g.Rules = append(g.Rules, r)
		}
		if n.Below(2) == 0 {
			g.Rules = append(g.Rules, probe.Rule(left, -1-n.Below(left+1)))
		}
		switch n.Below(60) {
		case 0:
			g.Rules = append(g.Rules, probe.Rule(left))
		case 1:
			g.Rules = slices.DeleteFunc(g.Rules, func(r api.Rule) bool { return r.Left == left })
		}
	}
	return g
}

func tallGrammars() []api.Grammar {
	var list []api.Grammar
	var n probe.Numbers
	for range 300 {
		list = append(list, tall(&n))
	}
	return list
}
