package trie_test

import (
	"math"
	"slices"

	"dovetail/api"
	"dovetail/probe"
)

// pair is what a step tells with its symbol: the symbol, and the node behind it.
type pair struct{ symbol, node int }

// model is a trie as the chapter's words have it: all beginnings written out, and what is asked for looked for among them.
type model struct {
	rules []api.Rule
	nodes [][]int
}

// ahead tells whether a list is ahead of another one: a beginning of it, or less at the first place where they aren't the same.
func ahead(list, other []int) bool {
	for at, symbol := range list {
		if at == len(other) {
			return false
		}
		if symbol != other[at] {
			return symbol < other[at]
		}
	}
	return len(list) < len(other)
}

func byLists(list, other []int) int {
	switch {
	case ahead(list, other):
		return -1
	case ahead(other, list):
		return 1
	}
	return 0
}

// twice is the first rule whose right side an earlier one has, or probe.None.
func twice(rules []api.Rule) int {
	for n, r := range rules {
		for _, earlier := range rules[:n] {
			if slices.Equal(r.Right, earlier.Right) {
				return n
			}
		}
	}
	return probe.None
}

func modelOf(rules []api.Rule) model {
	m := model{rules: rules, nodes: [][]int{nil}}
	for _, r := range rules {
		for size := range len(r.Right) {
			m.nodes = append(m.nodes, r.Right[:size+1])
		}
	}
	slices.SortFunc(m.nodes, byLists)
	m.nodes = slices.CompactFunc(m.nodes, slices.Equal)
	return m
}

// node is the number of a list, and whether it is a node.
func (m model) node(list []int) (int, bool) {
	for node, beginning := range m.nodes {
		if slices.Equal(beginning, list) {
			return node, true
		}
	}
	return 0, false
}

func (m model) step(node, symbol int) (int, bool) {
	if node < 0 || node >= len(m.nodes) {
		return 0, false
	}
	return m.node(append(slices.Clone(m.nodes[node]), symbol))
}

func (m model) find(right []int) (int, bool) {
	for n, r := range m.rules {
		if slices.Equal(r.Right, right) {
			return n, true
		}
	}
	return 0, false
}

func (m model) rule(node int) (int, bool) {
	if node < 0 || node >= len(m.nodes) {
		return 0, false
	}
	return m.find(m.nodes[node])
}

func (m model) next(node int) []pair {
	if node < 0 || node >= len(m.nodes) {
		return nil
	}
	var list []pair
	size := len(m.nodes[node])
	for number, beginning := range m.nodes {
		if len(beginning) == size+1 && slices.Equal(beginning[:size], m.nodes[node]) {
			list = append(list, pair{beginning[size], number})
		}
	}
	return list
}

func (m model) each() []int {
	order := make([]int, 0, len(m.rules))
	for n := range m.rules {
		order = append(order, n)
	}
	slices.SortFunc(order, func(a, b int) int { return byLists(m.rules[a].Right, m.rules[b].Right) })
	return order
}

// numbers are those with which a trie of these rules is asked: all symbols, their neighbours, nodes and numbers that are none.
func (m model) numbers() []int {
	list := []int{math.MinInt, math.MaxInt, len(m.nodes), len(m.nodes) + 1}
	for _, r := range m.rules {
		for _, symbol := range r.Right {
			list = append(list, symbol-1, symbol, symbol+1)
		}
	}
	for node := range m.nodes {
		list = append(list, node, -1-node)
	}
	slices.Sort(list)
	return slices.Compact(list)
}

// rulesOf are rules with those right sides, each with a Left of its own.
func rulesOf(sides ...[]int) []api.Rule {
	list := make([]api.Rule, len(sides))
	for n, side := range sides {
		list[n] = probe.Rule(7-n, side...)
	}
	return list
}

// chosen are all lists of so many of the right sides, in all orders, one of them perhaps several times.
func chosen(size int, sides [][]int) [][][]int {
	if size == 0 {
		return [][][]int{nil}
	}
	var list [][][]int
	for _, shorter := range chosen(size-1, sides) {
		for _, side := range sides {
			list = append(list, append(slices.Clone(shorter), side))
		}
	}
	return list
}

// smallRules are all lists of up to three short right sides, those with one twice among them.
func smallRules() [][]api.Rule {
	var list [][]api.Rule
	for size := range 4 {
		for _, sides := range chosen(size, probe.Sides(2, -1, 0, 2)) {
			list = append(list, rulesOf(sides...))
		}
	}
	return list
}

// someSides are up to that many right sides of those symbols that look mixed, none of them longer than most.
func someSides(numbers *probe.Numbers, size, most int, symbols []int) [][]int {
	sides := make([][]int, numbers.Below(size+1))
	for n := range sides {
		for range numbers.Below(most + 1) {
			sides[n] = append(sides[n], symbols[numbers.Below(len(symbols))])
		}
	}
	return sides
}

// mixedRules are rules of all sizes, of few symbols and of numbers at the ends of what there is.
func mixedRules() [][]api.Rule {
	var numbers probe.Numbers
	symbols := []int{0, -1, 1, -2, 60, math.MinInt, math.MaxInt, -1 << 32, 1 << 32, math.MinInt + 1, math.MaxInt - 1}
	var list [][]api.Rule
	for k := range 600 {
		few := symbols[:1+k%len(symbols)]
		list = append(list, rulesOf(someSides(&numbers, 2+k%11, 1+k%7, few)...))
	}
	return list
}

// apart are those rules that have no right side twice.
func apart(lists [][]api.Rule) [][]api.Rule {
	return slices.DeleteFunc(lists, func(rules []api.Rule) bool { return twice(rules) != probe.None })
}
