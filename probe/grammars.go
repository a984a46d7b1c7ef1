package probe

import (
	"math"
	"slices"
	"strings"

	"dovetail/api"
	"dovetail/gram"
	"dovetail/matrix"
	"dovetail/spec"
)

// Read is the grammar of a text whose lines are parted by ; here.
func Read(text string) api.Grammar {
	g, err := spec.Read(strings.ReplaceAll(text, ";", "\n"))
	if err != nil {
		panic(text + ": " + err.Error())
	}
	return g
}

// Rule is a rule of that Left and those symbols.
func Rule(left int, right ...int) api.Rule { return api.Rule{Left: left, Right: right} }

// Sides are all right sides of those symbols with at most that many of them, the empty one first.
func Sides(most int, symbols ...int) [][]int {
	list := [][]int{nil}
	for from := 0; most > 0; most-- {
		longest := list[from:]
		from = len(list)
		for _, side := range longest {
			for _, symbol := range symbols {
				list = append(list, append(slices.Clone(side), symbol))
			}
		}
	}
	return list
}

// OperatorSides are right sides without those that are empty or have two nonterminals side by side.
func OperatorSides(sides [][]int) [][]int {
	return slices.DeleteFunc(sides, func(side []int) bool {
		for at := range side {
			if at > 0 && side[at-1] < 0 && side[at] < 0 {
				return true
			}
		}
		return len(side) == 0
	})
}

// OperatorRule is a rule of that many symbols, in operator form; one in so many is a nonterminal, where one may stand.
func OperatorRule(n *Numbers, g api.Grammar, size, often int) api.Rule {
	r := Rule(n.Below(len(g.Nonterms)))
	after := false
	for range size {
		symbol := n.Below(len(g.Terms))
		if after = !after && n.Below(often) == 0; after {
			symbol = -1 - n.Below(len(g.Nonterms))
		}
		r.Right = append(r.Right, symbol)
	}
	return r
}

// RulesOf are rules with each of those right sides, for each of so many nonterminals as Left.
func RulesOf(nonterms int, sides ...[]int) []api.Rule {
	var list []api.Rule
	for _, side := range sides {
		for left := range nonterms {
			list = append(list, Rule(left, side...))
		}
	}
	return list
}

// WithRules are a grammar and its forms with up to that many rules more, of those, in their order; one may be taken again.
func WithRules(g api.Grammar, most int, rules []api.Rule) []api.Grammar {
	list := []api.Grammar{g}
	for n, r := range rules {
		if most == 0 {
			break
		}
		more := g
		more.Rules = append(slices.Clone(g.Rules), r)
		list = append(list, WithRules(more, most-1, rules[n:])...)
	}
	return list
}

// Wrong is a grammar that may not be.
type Wrong struct {
	What    string
	Grammar api.Grammar
}

// Wrongs are forms of a grammar each of which gram.Check refuses. The grammar itself may be, and has room for a symbol and a rule more.
func Wrongs(g api.Grammar) []Wrong {
	var list []Wrong
	add := func(what string, turn func(g *api.Grammar)) {
		turned := gram.Copy(g)
		turn(&turned)
		list = append(list, Wrong{what, turned})
	}
	add("no grammar", func(g *api.Grammar) { *g = api.Grammar{} })
	add("61 symbols", func(g *api.Grammar) { g.Terms = Names("t", api.MaxSymbols+1-len(g.Nonterms)) })
	add("121 rules", func(g *api.Grammar) { g.Rules = slices.Repeat([]api.Rule{{}}, api.MaxSource+1) })
	add("a nonterminal twice", func(g *api.Grammar) { g.Nonterms = append(g.Nonterms, g.Nonterms[0]) })
	add("a terminal without bytes", func(g *api.Grammar) { g.Terms = append(g.Terms, "") })
	add("a name of 33 bytes", func(g *api.Grammar) { g.Terms = append(g.Terms, strings.Repeat("x", api.MaxName+1)) })
	add("no nonterminals", func(g *api.Grammar) { g.Nonterms = nil })
	for _, axiom := range []int{len(g.Nonterms), -1, math.MinInt, math.MaxInt} {
		add("an axiom that is none's", func(g *api.Grammar) { g.Axiom = axiom })
	}
	for _, left := range []int{len(g.Nonterms), -1, math.MinInt, math.MaxInt} {
		add("a Left that is none's", func(g *api.Grammar) { g.Rules = append(g.Rules, Rule(left)) })
	}
	for _, symbol := range []int{len(g.Terms), -1 - len(g.Nonterms), math.MinInt, math.MaxInt} {
		add("a symbol that there isn't", func(g *api.Grammar) { g.Rules = append(g.Rules, Rule(0, symbol)) })
	}
	add("33 symbols", func(g *api.Grammar) { g.Rules = append(g.Rules, Rule(0, slices.Repeat([]int{-1}, api.MaxRight+1)...)) })
	return list
}

// Turned is a grammar in new memory whose right sides are turned about.
func Turned(g api.Grammar) api.Grammar {
	g = gram.Copy(g)
	for _, r := range g.Rules {
		slices.Reverse(r.Right)
	}
	return g
}

// Shuffled is a grammar with its rules in an order that looks mixed.
func Shuffled(g api.Grammar, n *Numbers) api.Grammar {
	rules := g.Rules
	g.Rules = nil
	for _, k := range n.Order(len(rules)) {
		g.Rules = append(g.Rules, rules[k])
	}
	return g
}

// Lessened are a grammar's forms with a rule less, one for each rule.
func Lessened(g api.Grammar) []api.Grammar {
	var list []api.Grammar
	for n := range g.Rules {
		less := g
		less.Rules = slices.Delete(slices.Clone(g.Rules), n, n+1)
		list = append(list, less)
	}
	return list
}

// Clear is a grammar without a clash: of rules that are put to it one by one, so many times, those by which there is none. It is in operator form.
func Clear(n *Numbers, terms, nonterms, tries, longest int) api.Grammar {
	g := api.Grammar{Terms: Names("t", terms), Nonterms: Names("n", nonterms)}
	g.Axiom = n.Below(nonterms)
	for range tries {
		more := g
		more.Rules = append(slices.Clone(g.Rules), OperatorRule(n, g, 1+n.Below(1+n.Below(longest)), 2))
		m, err := matrix.Of(more)
		if err != nil {
			break
		}
		if _, clash := m.Clash(); !clash {
			g = more
		}
	}
	return g
}
