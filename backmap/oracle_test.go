package backmap_test

import (
	"slices"
	"testing"

	"dovetail/api"
	"dovetail/backmap"
	"dovetail/deriv"
	"dovetail/gram"
	"dovetail/parse"
	"dovetail/probe"
	"dovetail/tables"
)

// Answers by the chapter's words

// renamingsOf are all lists of so many renamings from a nonterminal on, the least one first, each with the nonterminal to which it leads.
func renamingsOf(g api.Grammar, from, many int) (lists [][]int, ends []int) {
	if many == 0 {
		return [][]int{nil}, []int{from}
	}
	for k, r := range g.Rules {
		if r.Left != from || len(r.Right) != 1 || r.Right[0] >= 0 {
			continue
		}
		rests, to := renamingsOf(g, -1-r.Right[0], many-1)
		for _, rest := range rests {
			lists = append(lists, slices.Concat([]int{k}, rest))
		}
		ends = append(ends, to...)
	}
	return lists, ends
}

// modelChain is the first one of all chains, of all lengths up to that at which a nonterminal would come twice.
func modelChain(g api.Grammar, from, to int) ([]int, bool) {
	if gram.Check(g) != nil || min(from, to) < 0 || max(from, to) >= len(g.Nonterms) {
		return nil, false
	}
	for many := range len(g.Nonterms) {
		lists, ends := renamingsOf(g, from, many)
		if at := slices.Index(ends, to); at >= 0 {
			return lists[at], true
		}
	}
	return nil, false
}

// tokensFault is what is wrong with what both ways are given ahead of the steps.
func tokensFault(x *tables.Tables, tokens []int) error {
	if x == nil {
		return api.ErrArg
	}
	if len(tokens) > 65536 {
		return api.ErrLong
	}
	terms := len(x.Grammar().Terms)
	if slices.ContainsFunc(tokens, func(token int) bool { return token < 0 || token >= terms }) {
		return api.ErrArg
	}
	return nil
}

// model tells of one table what is to be answered.
type model struct {
	g api.Grammar
	n api.Normal
	// derived keeps what choice found: the lists of renamings are many.
	derived map[[2]int][]int
}

func newModel(x *tables.Tables) *model {
	return &model{g: x.Grammar(), n: x.Normal(), derived: make(map[[2]int][]int)}
}

// derive is the derivation tree of a tree of the normal form over tokens, or what is wrong with them.
func (m *model) derive(x *tables.Tables, tokens []int, tree []api.Step) ([]api.Step, error) {
	if err := tokensFault(x, tokens); err != nil {
		return nil, err
	}
	root, ok := probe.TreeOf(m.n.Rules, tree)
	if !ok || root.Step.From != 0 || !slices.Equal(root.Tokens(), tokens) || !m.has(-1-root.Symbol, m.g.Axiom) {
		return nil, api.ErrTree
	}
	return m.derivation(root, m.g.Axiom), nil
}

// has tells whether the set at a place has a nonterminal.
func (m *model) has(set, nonterm int) bool { return m.n.Sets[set]&(1<<nonterm) != 0 }

func (m *model) derivation(of probe.Node, nonterm int) []api.Step {
	var list []api.Step
	var last api.Rule
	for _, rule := range m.choice(of.Step.Rule, nonterm) {
		list = append(list, step(rule, of.Step.From, of.Step.To))
		last = m.g.Rules[rule]
	}
	for k, part := range of.Parts {
		if part.Symbol < 0 {
			list = append(list, m.derivation(part, -1-last.Right[k])...)
		}
	}
	return list
}

// choice is the chain and the rule behind it: all of each length are looked at, the least first.
func (m *model) choice(of, nonterm int) []int {
	key := [2]int{of, nonterm}
	if _, ok := m.derived[key]; !ok {
		m.derived[key] = m.choose(of, nonterm)
	}
	return m.derived[key]
}

func (m *model) choose(of, nonterm int) []int {
	for many := range len(m.g.Nonterms) {
		lists, ends := renamingsOf(m.g, nonterm, many)
		for at, list := range lists {
			for k, r := range m.g.Rules {
				if r.Left == ends[at] && m.fits(r.Right, m.n.Rules[of].Right) {
					return slices.Concat(list, []int{k})
				}
			}
		}
	}
	return nil
}

func (m *model) fits(side, form []int) bool {
	if len(side) != len(form) || len(side) == 1 && side[0] < 0 {
		return false
	}
	for k, symbol := range side {
		if symbol >= 0 || form[k] >= 0 {
			if symbol != form[k] {
				return false
			}
		} else if !m.has(-1-form[k], -1-symbol) {
			return false
		}
	}
	return true
}

// fold is what is left of a derivation tree without its renamings, or what is wrong with it.
func (m *model) fold(x *tables.Tables, tokens []int, derivation []api.Step) ([]api.Step, error) {
	if err := tokensFault(x, tokens); err != nil {
		return nil, err
	}
	if len(derivation) > 131072 {
		return nil, api.ErrTree
	}
	root, ok := probe.TreeOf(m.g.Rules, derivation)
	if !ok || root.Step.From != 0 || root.Symbol != -1-m.g.Axiom || !slices.Equal(root.Tokens(), tokens) {
		return nil, api.ErrTree
	}
	tree, _ := m.folded(root)
	return tree, nil
}

// folded is the tree that a node becomes, and the set that it is of.
func (m *model) folded(of probe.Node) (tree []api.Step, set int) {
	if len(of.Parts) == 1 && of.Parts[0].Symbol < 0 {
		return m.folded(of.Parts[0])
	}
	var form []int
	tree = steps(of.Step)
	for _, part := range of.Parts {
		if part.Symbol >= 0 {
			form = append(form, part.Symbol)
			continue
		}
		list, set := m.folded(part)
		tree = append(tree, list...)
		form = append(form, -1-set)
	}
	tree[0].Rule = slices.IndexFunc(m.n.Rules, func(r api.Rule) bool { return slices.Equal(r.Right, form) })
	return tree, m.n.Rules[tree[0].Rule].Left
}

// The calls held against the words

// checkDerive wants of Derive what the words say, and of an answer P19.4; what is wrong is answered.
func (m *model) checkDerive(t *testing.T, x *tables.Tables, tokens []int, tree []api.Step) error {
	t.Helper()
	want, fault := m.derive(x, tokens, tree)
	got, err := backmap.Derive(x, tokens, tree)
	if probe.FaultOf(err) != probe.Bare(fault) || !slices.Equal(got, want) {
		t.Fatalf("%v: Derive of %v with %v: %v, %v, want %v, %v", m.g, brief(tokens), brief(tree), brief(got), err, brief(want), fault)
	}
	if err != nil {
		return fault
	}
	if err := deriv.Check(m.g, tokens, got); err != nil {
		t.Fatalf("%v: %v is no whole tree for %v: %v", m.g, brief(got), brief(tokens), err)
	}
	if back, err := backmap.Fold(x, tokens, got); err != nil || !slices.Equal(back, tree) {
		t.Fatalf("%v: Fold of %v is %v, %v, want %v", m.g, brief(got), brief(back), err, brief(tree))
	}
	return nil
}

// checkFold wants of Fold what the words say, and of an answer that it is the parser's; what is wrong is answered.
func (m *model) checkFold(t *testing.T, x *tables.Tables, tokens []int, derivation []api.Step) error {
	t.Helper()
	want, fault := m.fold(x, tokens, derivation)
	got, err := backmap.Fold(x, tokens, derivation)
	if probe.FaultOf(err) != probe.Bare(fault) || !slices.Equal(got, want) {
		t.Fatalf("%v: Fold of %v with %v: %v, %v, want %v, %v", m.g, brief(tokens), brief(derivation), brief(got), err, brief(want), fault)
	}
	if err != nil {
		return fault
	}
	if r, err := parse.Parse(x, tokens); err != nil || !slices.Equal(r.Tree, got) {
		t.Fatalf("%v: Fold of %v with %v: %v, the parser's tree is %v, %v", m.g, brief(tokens), brief(derivation), brief(got), brief(r.Tree), err)
	}
	return nil
}

// checkChain wants of Chain what the words say, and answers whether there is one.
func checkChain(t *testing.T, g api.Grammar, from, to int) bool {
	t.Helper()
	want, some := modelChain(g, from, to)
	if got, ok := backmap.Chain(g, from, to); ok != some || !slices.Equal(got, want) {
		t.Fatalf("%v: Chain of %d and %d: %v, %v, want %v, %v", g, from, to, got, ok, want, some)
	}
	return some
}

// What tests are made of

func step(rule, from, to int) api.Step { return api.Step{Rule: rule, From: from, To: to} }

func steps(list ...api.Step) []api.Step { return list }

// brief is the beginning of a list, as a fault is told of it.
func brief[T any](list []T) []T { return list[:min(len(list), 40)] }

// sums are the chapter's tables: rules 0 E: E + T, 1 E: T, 2 T: i; + 0, i 1; sets E 0, E T 1; of the normal form 0: -2 0 -2, 1: -1 0 -2, 2: 1.
func sums() *tables.Tables { return probe.Tables("E : E + T; E : T; T : i") }
