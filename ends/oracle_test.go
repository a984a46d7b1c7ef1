package ends_test

import (
	"slices"

	"dovetail/api"
	"dovetail/ends"
	"dovetail/probe"
)

// showing tells whether a rule shows the terminal on the left, as the chapter's section 'Words' says it.
func showing(r api.Rule, term int) bool {
	switch {
	case len(r.Right) > 0 && r.Right[0] == term:
		return true
	case len(r.Right) > 1 && r.Right[0] < 0 && r.Right[1] == term:
		return true
	}
	return false
}

// leading tells whether a rule leads on the left to the nonterminal.
func leading(r api.Rule, nonterm int) bool { return len(r.Right) > 0 && r.Right[0] == -1-nonterm }

// leftOf is Left of each nonterminal: what all those show to which there is a way of any length.
func leftOf(g api.Grammar) []api.Set {
	ways := make([]api.Set, len(g.Nonterms))
	for n := range ways {
		ways[n] = 1 << n
		for m := range ways {
			if slices.ContainsFunc(g.Rules, func(r api.Rule) bool { return r.Left == n && leading(r, m) }) {
				ways[n] |= 1 << m
			}
		}
	}
	for via := range ways {
		for n := range ways {
			if ways[n]>>via&1 == 1 {
				ways[n] |= ways[via]
			}
		}
	}
	left := make([]api.Set, len(g.Nonterms))
	for n, to := range ways {
		for term := range g.Terms {
			if slices.ContainsFunc(g.Rules, func(r api.Rule) bool { return to>>r.Left&1 == 1 && showing(r, term) }) {
				left[n] |= 1 << term
			}
		}
	}
	return left
}

func endsOf(g api.Grammar) ends.Ends {
	return ends.Ends{Left: leftOf(g), Right: leftOf(probe.Turned(g))}
}

// isChain tells whether rules are a chain on the left, as the chapter's section 'Words' says it.
func isChain(g api.Grammar, nonterm, term int, chain []int) bool {
	for n, rule := range chain {
		if rule < 0 || rule >= len(g.Rules) {
			return false
		}
		r := g.Rules[rule]
		if n == 0 && r.Left != nonterm || n > 0 && !leading(g.Rules[chain[n-1]], r.Left) {
			return false
		}
	}
	return len(chain) > 0 && showing(g.Rules[chain[len(chain)-1]], term)
}

// chains are all chains on the left of just that many rules, from the least list on. They are found by trying all rules in each place.
func chains(g api.Grammar, nonterm, term, size int) [][]int {
	var list [][]int
	var tried []int
	var try func()
	try = func() {
		if len(tried) == size {
			if isChain(g, nonterm, term, tried) {
				list = append(list, slices.Clone(tried))
			}
			return
		}
		for n, r := range g.Rules {
			if len(tried) == 0 && r.Left != nonterm || len(tried) > 0 && !leading(g.Rules[tried[len(tried)-1]], r.Left) {
				continue
			}
			tried = append(tried, n)
			try()
			tried = tried[:len(tried)-1]
		}
	}
	try()
	return list
}

// after is how many rules at least stand behind a rule in a chain on the left for a terminal, by how many the nonterminals' shortest ones have, as far as is known; -1, if none is known.
func after(r api.Rule, term int, least []int) int {
	switch {
	case showing(r, term):
		return 0
	case len(r.Right) > 0 && r.Right[0] < 0 && least[-1-r.Right[0]] > 0:
		return least[-1-r.Right[0]]
	}
	return -1
}

// lengths are how many rules the shortest chains on the left for a terminal have, for each nonterminal; 0 where there is none. They are found from the last rules of chains on, those of one length after the other.
func lengths(g api.Grammar, term int) []int {
	least := make([]int, len(g.Nonterms))
	for behind := range g.Nonterms {
		for _, r := range g.Rules {
			if least[r.Left] == 0 && after(r, term, least) == behind {
				least[r.Left] = behind + 1
			}
		}
	}
	return least
}

// chainOf is the chain on the left, by how many rules the shortest ones have: each time the least rule behind which there are as many as must be.
func chainOf(g api.Grammar, nonterm, term int, least []int) []int {
	var chain []int
	for behind := least[nonterm] - 1; behind >= 0; behind-- {
		rule := slices.IndexFunc(g.Rules, func(r api.Rule) bool { return r.Left == nonterm && after(r, term, least) == behind })
		chain = append(chain, rule)
		if behind > 0 {
			nonterm = -1 - g.Rules[rule].Right[0]
		}
	}
	return chain
}

// mixed is a grammar that may be; most rules lead on, on the left or on the right, and few show a terminal, so that chains are of any length.
func mixed(n *probe.Numbers) api.Grammar {
	g := api.Grammar{Terms: probe.Letters('a', 1+n.Below(5)), Nonterms: probe.Letters('A', 1+n.Below(7))}
	g.Axiom = n.Below(len(g.Nonterms))
	for range n.Below(14) {
		r := probe.Rule(n.Below(len(g.Nonterms)))
		for range n.Below(5) {
			symbol := n.Below(len(g.Terms))
			if n.Below(3) < 2 {
				symbol = -1 - n.Below(len(g.Nonterms))
			}
			r.Right = append(r.Right, symbol)
		}
		g.Rules = append(g.Rules, r)
	}
	return g
}

func manyGrammars() []api.Grammar {
	var list []api.Grammar
	var n probe.Numbers
	for range 4000 {
		list = append(list, mixed(&n))
	}
	return list
}

// smallGrammars are all of up to three rules of up to two symbols, over two nonterminals and the terminals a and b (of three rules: a alone), but for the order of rules; and all of one rule of up to four symbols.
func smallGrammars() []api.Grammar {
	g := api.Grammar{Terms: probe.Letters('a', 2), Nonterms: probe.Letters('A', 2)}
	list := probe.WithRules(g, 2, probe.RulesOf(2, probe.Sides(2, -2, -1, 0, 1)...))
	list = append(list, probe.WithRules(g, 1, probe.RulesOf(2, probe.Sides(4, -2, -1, 0, 1)...))...)
	g.Terms = probe.Letters('a', 1)
	return append(list, probe.WithRules(g, 3, probe.RulesOf(2, probe.Sides(2, -2, -1, 0)...))...)
}

// orders are a grammar's forms with its rules from each of them on, forwards and backwards: with up to three rules these are all orders.
func orders(g api.Grammar) []api.Grammar {
	var list []api.Grammar
	for from := range g.Rules {
		form := g
		form.Rules = slices.Concat(g.Rules[from:], g.Rules[:from])
		back := g
		back.Rules = slices.Clone(form.Rules)
		slices.Reverse(back.Rules)
		list = append(list, form, back)
	}
	return list
}

// wide is a grammar of up to the most symbols and rules, in which chains are long and many of one length; right sides have up to 32 symbols.
func wide(n *probe.Numbers) api.Grammar {
	nonterms := 20 + n.Below(39)
	g := api.Grammar{Terms: probe.Names("t", 1+n.Below(api.MaxSymbols-nonterms)), Nonterms: probe.Names("n", nonterms)}
	near := func(left int) int { return -1 - min(max(left+n.Below(6)-2, 0), nonterms-1) }
	for range api.MaxSource {
		r := probe.Rule(n.Below(nonterms))
		for range 1 + n.Below(2) + n.Below(6)*n.Below(7) {
			r.Right = append(r.Right, near(r.Left))
		}
		if n.Below(4) == 0 {
			r.Right[n.Below(len(r.Right))] = n.Below(len(g.Terms))
		}
		g.Rules = append(g.Rules, r)
	}
	return g
}

func wideGrammars() []api.Grammar {
	var list []api.Grammar
	var n probe.Numbers
	for range 150 {
		list = append(list, wide(&n))
	}
	return list
}
