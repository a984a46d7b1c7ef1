package normal_test

import (
	"slices"
	"strconv"
	"strings"

	"dovetail/api"
	"dovetail/probe"
)

// renamed tells whether a rule is a renaming, as the page says it.
func renamed(r api.Rule) bool { return len(r.Right) == 1 && r.Right[0] < 0 }

// comers are, for each nonterminal, those that come to it: by ways over more and more nonterminals.
func comers(g api.Grammar) []api.Set {
	list := make([]api.Set, len(g.Nonterms))
	for n := range list {
		list[n] = 1 << n
		for _, r := range g.Rules {
			if renamed(r) && r.Right[0] == -1-n {
				list[n] |= 1 << r.Left
			}
		}
	}
	for via := range list {
		for n := range list {
			if list[n]>>via&1 == 1 {
				list[n] |= list[via]
			}
		}
	}
	return list
}

// comesTo is what a form comes to, by which nonterminals come to which, as the chapter's section 'Words' says it. In the form is -1 - k for the set k.
func comesTo(g api.Grammar, comers []api.Set, form []int, sets []api.Set) api.Set {
	var found api.Set
rules:
	for _, r := range g.Rules {
		if renamed(r) || len(r.Right) != len(form) {
			continue
		}
		for at, symbol := range r.Right {
			switch {
			case symbol >= 0 && form[at] != symbol:
				continue rules
			case symbol < 0 && (form[at] >= 0 || sets[-1-form[at]]>>(-1-symbol)&1 == 0):
				continue rules
			}
		}
		found |= comers[r.Left]
	}
	return found
}

// places are where nonterminals, or sets, stand.
func places(right []int) []int {
	var list []int
	for at, symbol := range right {
		if symbol < 0 {
			list = append(list, at)
		}
	}
	return list
}

// filled are all forms with those sets' numbers to choose from at each of a right side's places; and whether they are no more than most.
func filled(right []int, choices [][]int, most int) ([][]int, bool) {
	forms := [][]int{slices.Clone(right)}
	size := 1
	for _, list := range choices {
		// A place that can't be filled leaves nothing, however many choices the others have.
		if len(list) == 0 {
			return nil, true
		}
	}
	for k, at := range places(right) {
		if size *= len(choices[k]); size > most {
			return nil, false
		}
		var longer [][]int
		for _, form := range forms {
			for _, number := range choices[k] {
				with := slices.Clone(form)
				with[at] = -1 - number
				longer = append(longer, with)
			}
		}
		forms = longer
	}
	return forms, true
}

// having are the numbers of the sets that have a nonterminal.
func having(sets []api.Set, nonterm int) []int {
	var list []int
	for k, s := range sets {
		if s>>nonterm&1 == 1 {
			list = append(list, k)
		}
	}
	return list
}

// choicesOf are the sets' numbers that each place of a right side is filled with: those that have its nonterminal, or all.
func choicesOf(right []int, sets []api.Set, all bool) [][]int {
	var list [][]int
	for _, at := range places(right) {
		choices := having(sets, -1-right[at])
		if all {
			choices = nil
			for k := range sets {
				choices = append(choices, k)
			}
		}
		list = append(list, choices)
	}
	return list
}

// formsOver are all forms over a collection of sets that come to a set that is not empty, with what they come to, by rising right sides; and whether no rule was to be filled in more than most ways. Places are filled with all sets, or only with those by which the rule fits.
func formsOver(g api.Grammar, sets []api.Set, most int, all bool) (rules []api.Rule, to []api.Set, ok bool) {
	up := comers(g)
	var forms [][]int
	for _, r := range g.Rules {
		if renamed(r) {
			continue
		}
		list, ok := filled(r.Right, choicesOf(r.Right, sets, all), most)
		if !ok {
			return nil, nil, false
		}
		forms = append(forms, list...)
	}
	slices.SortFunc(forms, slices.Compare[[]int])
	for _, form := range slices.CompactFunc(forms, slices.Equal[[]int]) {
		if s := comesTo(g, up, form, sets); s != 0 {
			rules, to = append(rules, api.Rule{Right: form}), append(to, s)
		}
	}
	return rules, to, true
}

// mostRules is how many rules a normal form has at most.
const mostRules = 600

// normalOf is the normal form of a grammar in operator form, and whether it has at most 600 rules. Collections are made of what the forms over the last one come to, from the empty one on, till nothing is new.
func normalOf(g api.Grammar) (api.Normal, bool) {
	// Each way in which a rule fits is a rule of the normal form.
	return grown(g, mostRules, false)
}

// normalByWords is the same, with all sets in all places; its second answer is whether there were at most so many ways to fill a rule.
func normalByWords(g api.Grammar, most int) (api.Normal, bool) { return grown(g, most, true) }

func grown(g api.Grammar, most int, all bool) (api.Normal, bool) {
	var sets []api.Set
	for {
		rules, to, ok := formsOver(g, sets, most, all)
		if !ok || len(rules) > mostRules {
			return api.Normal{}, false
		}
		next := slices.Clone(to)
		slices.Sort(next)
		next = slices.Compact(next)
		if slices.Equal(next, sets) {
			for n, s := range to {
				rules[n].Left = slices.Index(sets, s)
			}
			return api.Normal{Sets: sets, Rules: rules}, true
		}
		sets = next
	}
}

// drawn is a normal form as text: its sets as numbers, and behind each ; a rule.
func drawn(n api.Normal) string {
	var text strings.Builder
	for k, s := range n.Sets {
		if k > 0 {
			text.WriteString(" ")
		}
		text.WriteString(strconv.FormatUint(uint64(s), 10))
	}
	for _, r := range n.Rules {
		text.WriteString("; " + strconv.Itoa(r.Left) + ":")
		for _, symbol := range r.Right {
			text.WriteString(" " + strconv.Itoa(symbol))
		}
	}
	return text.String()
}

func sameRule(a, b api.Rule) bool { return a.Left == b.Left && slices.Equal(a.Right, b.Right) }

func sameNormal(a, b api.Normal) bool {
	return slices.Equal(a.Sets, b.Sets) && slices.EqualFunc(a.Rules, b.Rules, sameRule)
}

// mixed is a grammar in operator form, of few symbols: so many rules have one skeleton, and many sets are of several nonterminals.
func mixed(n *probe.Numbers) api.Grammar {
	g := api.Grammar{Terms: probe.Letters('a', 1+n.Below(3)), Nonterms: probe.Letters('A', 1+n.Below(5))}
	g.Axiom = n.Below(len(g.Nonterms))
	for range n.Below(17) {
		g.Rules = append(g.Rules, probe.OperatorRule(n, g, 1+n.Below(1+n.Below(6)), 2))
	}
	return g
}

func manyGrammars() []api.Grammar {
	var list []api.Grammar
	var n probe.Numbers
	for range 4000 {
		list = append(list, mixed(&n))
	}
	return list
}

// smallGrammars are all in operator form, but for the order of rules, of up to three rules of up to three symbols, over the nonterminals A and B and the terminal a; of two rules, over a and b, too.
func smallGrammars() []api.Grammar {
	g := api.Grammar{Terms: probe.Letters('a', 1), Nonterms: probe.Letters('A', 2)}
	list := probe.WithRules(g, 3, probe.RulesOf(2, probe.OperatorSides(probe.Sides(3, -2, -1, 0))...))
	g.Terms = probe.Letters('a', 2)
	return append(list, probe.WithRules(g, 2, probe.RulesOf(2, probe.OperatorSides(probe.Sides(3, -2, -1, 0, 1))...))...)
}

// wide is a grammar in operator form of up to the most symbols and rules, with right sides of up to 32 symbols.
func wide(n *probe.Numbers) api.Grammar {
	nonterms := 2 + n.Below(58)
	g := api.Grammar{Terms: probe.Names("t", 1+n.Below(api.MaxSymbols-nonterms)), Nonterms: probe.Names("n", nonterms)}
	g.Axiom = n.Below(nonterms)
	longest := 2 + n.Below(1+n.Below(api.MaxRight-1))
	often := 2 + n.Below(6)
	for range 30 + n.Below(api.MaxSource-29) {
		g.Rules = append(g.Rules, probe.OperatorRule(n, g, 1+n.Below(longest), often))
	}
	return g
}

// dense is a grammar in operator form of few terminals and many rules: most have a normal form of very many sets and rules, many of too many.
func dense(n *probe.Numbers) api.Grammar {
	g := api.Grammar{Terms: probe.Letters('a', 1+n.Below(3)), Nonterms: probe.Letters('A', 4+n.Below(12))}
	often := 2 + n.Below(2)
	for range 10 + n.Below(60) {
		g.Rules = append(g.Rules, probe.OperatorRule(n, g, 1+n.Below(5), often))
	}
	return g
}

func wideGrammars() []api.Grammar {
	var list []api.Grammar
	var n probe.Numbers
	for range 400 {
		list = append(list, wide(&n), dense(&n))
	}
	return list
}
