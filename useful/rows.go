package useful

import (
	"slices"

	"dovetail/api"
	"dovetail/gram"
	"dovetail/sets"
)

// What stands for the length of a row that isn't there, and for that of each row of more than MaxTokens tokens.
const (
	none    = -1
	tooLong = api.MaxTokens + 1
)

// Shortest: P7.3.
func Shortest(g api.Grammar) ([]int, error) {
	if err := gram.Check(g); err != nil {
		return nil, err
	}
	able := productive(g.Rules)
	lengths := make([]int, len(g.Nonterms))
	for n := range lengths {
		lengths[n] = none
		if sets.Has(able, n) {
			lengths[n] = tooLong
		}
	}
	// Whole rounds, not begun anew at each change as sets are: a length may shrink many times more often than a set grows.
	for rules := within(g.Rules, able); shorten(lengths, rules); {
	}
	return lengths, nil
}

// shorten lowers the lengths of those nonterminals that have a rule with fewer tokens, and tells whether there are any.
func shorten(lengths []int, rules []api.Rule) bool {
	shrunk := false
	for _, r := range rules {
		if n := length(r, lengths); n < lengths[r.Left] {
			lengths[r.Left] = n
			shrunk = true
		}
	}
	return shrunk
}

// length is how many tokens a rule's right side has, with nonterminals' rows of those lengths.
func length(r api.Rule, lengths []int) int {
	sum := 0
	for _, symbol := range r.Right {
		if symbol < 0 {
			sum += lengths[nonterm(symbol)]
			continue
		}
		sum++
	}
	return sum
}

// Word: P7.4.
func Word(g api.Grammar, nonterm int) ([]int, error) {
	lengths, err := Shortest(g)
	switch {
	case err != nil:
		return nil, err
	case nonterm < 0 || nonterm >= len(lengths):
		return nil, api.ErrArg
	case lengths[nonterm] == none:
		return nil, api.ErrNone
	case lengths[nonterm] == tooLong:
		return nil, api.ErrLong
	}
	rules := shortestRules(g.Rules, lengths)
	// Rows of what the nonterminal doesn't lead to may be long, and nobody asks for them.
	rules = within(rules, reached(sets.Of(nonterm), rules))
	return shortestRows(rules, len(lengths))[nonterm], nil
}

// shortestRules are the rules whose right sides are as long as their Lefts' shortest rows: no others make shortest rows. (One with a nonterminal that has no row may be among them: it never makes any.)
func shortestRules(rules []api.Rule, lengths []int) []api.Rule {
	return slices.DeleteFunc(slices.Clone(rules), func(r api.Rule) bool {
		return length(r, lengths) != lengths[r.Left]
	})
}

// shortestRows are the shortest rows of count nonterminals, as far as these rules make any. They are settled one by one: of all rows that rules make of settled ones the first, by length and then as a list. No rule makes a row that is ahead of a part of it, so none that is made later is ahead of a settled one.
func shortestRows(rules []api.Rule, count int) [][]int {
	rows := make([][]int, count)
	var offered, settled api.Set
	ahead := func(row []int, n int) bool {
		switch {
		case !sets.Has(offered, n):
			return true
		case len(row) != len(rows[n]):
			return len(row) < len(rows[n])
		}
		return slices.Compare(row, rows[n]) < 0
	}
	for {
		ready, waiting := parted(rules, settled)
		for _, r := range ready {
			if row := joined(r.Right, rows); ahead(row, r.Left) {
				rows[r.Left] = row
				offered = sets.With(offered, r.Left)
			}
		}
		open := sets.Minus(offered, settled)
		first, ok := sets.Least(open)
		if !ok {
			return rows
		}
		for n := range sets.Each(open) {
			if ahead(rows[n], first) {
				first = n
			}
		}
		settled = sets.With(settled, first)
		rules = waiting
	}
}

// parted are the rules with right sides all whose nonterminals are settled, and the others: so each rule's row, which may be long, is made once.
func parted(rules []api.Rule, settled api.Set) (ready, waiting []api.Rule) {
	for _, r := range rules {
		if sets.Within(nonterms(r), settled) {
			ready = append(ready, r)
			continue
		}
		waiting = append(waiting, r)
	}
	return ready, waiting
}

// joined is a right side with its row in the place of each nonterminal.
func joined(right []int, rows [][]int) []int {
	var row []int
	for _, symbol := range right {
		if symbol < 0 {
			row = append(row, rows[nonterm(symbol)]...)
			continue
		}
		row = append(row, symbol)
	}
	return row
}
