package tables_test

import (
	"cmp"
	"math"
	"slices"
	"strings"
	"testing"

	"dovetail/api"
	"dovetail/gram"
	"dovetail/matrix"
	"dovetail/normal"
	"dovetail/opform"
	"dovetail/precfun"
	"dovetail/probe"
	"dovetail/tables"
)

// What the tables of a grammar are, by the calls of the layers below

// firstError is the first error of a grammar, found as P14.6 says it.
func firstError(g api.Grammar) error {
	if err := gram.Check(g); err != nil {
		return err
	}
	if err := opform.Check(g); err != nil {
		return err
	}
	m, err := matrix.Of(g)
	if err != nil {
		return err
	}
	if pair, ok := m.Clash(); ok {
		return &api.PairError{Pair: pair, Err: api.ErrMatrix}
	}
	_, err = normal.Of(g)
	return err
}

// told is all that tables tell without being asked for a number.
type told struct {
	grammar   api.Grammar
	normal    api.Normal
	starts    []int
	terms     int
	functions precfun.Functions
	matrix    *matrix.Matrix
}

func ask(x *tables.Tables) told {
	return told{grammar: x.Grammar(), normal: x.Normal(), starts: x.Starts(), terms: x.Terms(), functions: x.Functions(), matrix: x.Matrix()}
}

// wanted is what the tables of a grammar that has them are to tell.
func wanted(t *testing.T, g api.Grammar) told {
	t.Helper()
	m, err := matrix.Of(g)
	n, also := normal.Of(g)
	f, too := precfun.Of(m)
	if err := cmp.Or(err, also, too); err != nil {
		t.Fatalf("%v has no tables: %v", g, err)
	}
	return told{grammar: g, normal: n, starts: normal.Starts(g, n), terms: len(g.Terms), functions: f, matrix: m}
}

func (a told) same(b told) bool {
	return gram.Same(a.grammar, b.grammar) && sameNormal(a.normal, b.normal) && slices.Equal(a.starts, b.starts) &&
		a.terms == b.terms && sameFunctions(a.functions, b.functions) && drawn(a.matrix) == drawn(b.matrix)
}

func sameNormal(a, b api.Normal) bool {
	return slices.Equal(a.Sets, b.Sets) && slices.EqualFunc(a.Rules, b.Rules, func(x, y api.Rule) bool { return x.Left == y.Left && slices.Equal(x.Right, y.Right) })
}

func sameFunctions(a, b precfun.Functions) bool {
	return slices.Equal(a.F, b.F) && slices.Equal(a.G, b.G) && slices.Equal(a.Classes, b.Classes) && slices.Equal(a.Cycle, b.Cycle)
}

// drawn is a matrix as text: a row for each first terminal, parted by ;, and in it for each second one the relations, < = >, or . for none.
func drawn(m *matrix.Matrix) string {
	var rows []string
	for a := range m.Terms() {
		cells := make([]string, m.Terms())
		for b := range cells {
			for relation, sign := range []string{".", "<", "=", ">"} {
				if m.Holds(a, b, relation) {
					cells[b] += sign
				}
			}
		}
		rows = append(rows, strings.Join(cells, " "))
	}
	return strings.Join(rows, "; ")
}

// about are numbers from below 0 to above a size, and those at the ends of what numbers there are.
func about(size int) []int {
	list := []int{math.MinInt, math.MinInt + 1, -65, -64, -3, -2, -1, size, size + 1, size + 2, size + 60, size + 64, 1 << 32, math.MaxInt - 1, math.MaxInt}
	return append(list, probe.UpTo(size)...)
}

// sidesAbout are the right sides of a normal form and others that are nearly one of them.
func sidesAbout(n api.Normal) [][]int {
	list := [][]int{nil, {math.MaxInt}, {math.MinInt}, {-1}, {0}}
	for _, r := range n.Rules {
		turned := slices.Clone(r.Right)
		slices.Reverse(turned)
		list = append(list, r.Right, r.Right[1:], r.Right[:len(r.Right)-1], turned)
		for _, more := range []int{0, -1, -1 - r.Left, len(n.Rules), math.MaxInt} {
			list = append(list, append(slices.Clone(r.Right), more), append([]int{more}, r.Right...))
		}
		for at := range r.Right {
			for _, by := range []int{1, -1, len(n.Sets), 64, 1 << 32} {
				other := slices.Clone(r.Right)
				other[at] += by
				list = append(list, other)
			}
		}
	}
	return list
}

// checkNumbers holds what tables tell of numbers and right sides against what they are to tell.
func checkNumbers(t *testing.T, x *tables.Tables, want told) {
	t.Helper()
	for _, a := range about(want.terms + 1) {
		for _, b := range about(want.terms + 1) {
			relation := api.None
			for r := api.Yields; r <= api.Takes; r++ {
				if want.matrix.Holds(a, b, r) {
					relation = r
				}
			}
			if got := x.Relation(a, b); got != relation {
				t.Errorf("%v: Relation of %d and %d is %d, want %d", want.grammar, a, b, got, relation)
			}
		}
	}
	for _, set := range about(len(want.normal.Sets)) {
		if x.Start(set) != slices.Contains(want.starts, set) {
			t.Errorf("%v: Start of %d is %v", want.grammar, set, x.Start(set))
		}
	}
	for _, rule := range about(len(want.normal.Rules)) {
		left, is := 0, rule >= 0 && rule < len(want.normal.Rules)
		if is {
			left = want.normal.Rules[rule].Left
		}
		if got, ok := x.Left(rule); got != left || ok != is {
			t.Errorf("%v: Left of %d is %d, %v, want %d, %v", want.grammar, rule, got, ok, left, is)
		}
	}
	checkFind(t, x, want.normal)
}

func checkFind(t *testing.T, x *tables.Tables, n api.Normal) {
	t.Helper()
	for _, right := range sidesAbout(n) {
		rule := slices.IndexFunc(n.Rules, func(r api.Rule) bool { return slices.Equal(r.Right, right) })
		if got, ok := x.Find(right); got != max(rule, 0) || ok != (rule >= 0) {
			t.Errorf("%v: Find of %v is %d, %v, want %d", n, right, got, ok, rule)
		}
	}
}

// checkMake holds Make of any grammar against what it is to answer, and answers the tables.
func checkMake(t *testing.T, g api.Grammar) *tables.Tables {
	t.Helper()
	x, err := tables.Make(g)
	want := firstError(g)
	if probe.FaultOf(err) != probe.FaultOf(want) || (x == nil) != (want != nil) {
		t.Fatalf("Make of %v: %v, want %v", g, err, want)
	}
	if x == nil {
		return nil
	}
	all := wanted(t, g)
	if !ask(x).same(all) {
		t.Fatalf("tables of %v: %v, want %v", g, ask(x), all)
	}
	checkNumbers(t, x, all)
	return x
}

// Grammars

// mixed is a grammar of few symbols, most of them in operator form; many have tables.
func mixed(n *probe.Numbers) api.Grammar {
	g := api.Grammar{Terms: probe.Letters('a', 1+n.Below(4)), Nonterms: probe.Letters('A', 1+n.Below(4))}
	g.Axiom = n.Below(len(g.Nonterms))
	for range n.Below(8) {
		r := probe.OperatorRule(n, g, 1+n.Below(1+n.Below(5)), 2+n.Below(2))
		if n.Below(40) == 0 {
			r.Right = append(r.Right, -1, -1)
		}
		g.Rules = append(g.Rules, r)
	}
	return g
}

func manyGrammars() []api.Grammar {
	var n probe.Numbers
	var list []api.Grammar
	for range 4000 {
		list = append(list, mixed(&n))
	}
	return list
}

// smallGrammars are, but for the order of rules, all of up to two rules of up to three symbols, over the nonterminals A and B and the terminals a and b, in operator form or with an empty right side; and all of three rules of up to two symbols, over A and B and a.
func smallGrammars() []api.Grammar {
	g := api.Grammar{Terms: probe.Letters('a', 2), Nonterms: probe.Letters('A', 2)}
	sides := append(probe.OperatorSides(probe.Sides(3, -2, -1, 0, 1)), nil)
	list := probe.WithRules(g, 2, probe.RulesOf(2, sides...))
	g.Terms = probe.Letters('a', 1)
	return append(list, probe.WithRules(g, 3, probe.RulesOf(2, probe.Sides(2, -2, -1, 0)...))...)
}

// clearGrammars are of few symbols, and some of many.
func clearGrammars() []api.Grammar {
	var n probe.Numbers
	var list []api.Grammar
	for range 1500 {
		list = append(list, probe.Clear(&n, 1+n.Below(6), 1+n.Below(6), 4+n.Below(30), 6))
	}
	for range 60 {
		nonterms := 1 + n.Below(30)
		list = append(list, probe.Clear(&n, 1+n.Below(api.MaxSymbols-nonterms), nonterms, 150, 1+n.Below(api.MaxRight)))
	}
	return list
}
