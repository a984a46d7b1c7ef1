package backmap_test

import (
	"math"
	"slices"
	"testing"

	"dovetail/api"
	"dovetail/backmap"
	"dovetail/probe"
	"dovetail/tables"
)

const plus, i = 0, 1

// sum and derived are the trees of i + i.
func sum() []api.Step { return steps(step(0, 0, 3), step(2, 0, 1), step(2, 2, 3)) }

func derived() []api.Step {
	return steps(step(0, 0, 3), step(1, 0, 1), step(2, 0, 1), step(2, 2, 3))
}

// wantDerive and wantFold want that answer, or that error alone.
func wantDerive(t *testing.T, x *tables.Tables, tokens []int, tree, want []api.Step, fault error) {
	t.Helper()
	if got, err := backmap.Derive(x, tokens, tree); err != fault || !slices.Equal(got, want) {
		t.Errorf("Derive of %v with %v: %v, %v, want %v, %v", brief(tokens), brief(tree), brief(got), err, brief(want), fault)
	}
}

func wantFold(t *testing.T, x *tables.Tables, tokens []int, derivation, want []api.Step, fault error) {
	t.Helper()
	if got, err := backmap.Fold(x, tokens, derivation); err != fault || !slices.Equal(got, want) {
		t.Errorf("Fold of %v with %v: %v, %v, want %v, %v", brief(tokens), brief(derivation), brief(got), err, brief(want), fault)
	}
}

func wantChain(t *testing.T, g api.Grammar, from, to int, some bool, want ...int) {
	t.Helper()
	if got, ok := backmap.Chain(g, from, to); ok != some || !slices.Equal(got, want) {
		t.Errorf("Chain of %d and %d: %v, %v, want %v, %v", from, to, got, ok, want, some)
	}
}

func TestExamples(t *testing.T) {
	x := sums()
	wantDerive(t, x, []int{i, plus, i}, sum(), derived(), nil)
	wantDerive(t, x, []int{i}, steps(step(2, 0, 1)), steps(step(1, 0, 1), step(2, 0, 1)), nil)
	wantFold(t, x, []int{i, plus, i}, derived(), sum(), nil)
	wantDerive(t, x, []int{i}, steps(step(0, 0, 1)), nil, api.ErrTree)
	wantDerive(t, x, []int{plus}, steps(step(2, 0, 1)), nil, api.ErrTree)
	wantDerive(t, x, []int{9}, steps(step(2, 0, 1)), nil, api.ErrArg)
	wantDerive(t, nil, []int{i}, steps(step(2, 0, 1)), nil, api.ErrArg)
	g := x.Grammar()
	wantChain(t, g, 0, 1, true, 1)
	wantChain(t, g, 0, 0, true)
	wantChain(t, g, 1, 0, false)
	wantChain(t, g, 0, 9, false)
}

// TestThePageExample: i + i + i, by Derive and back.
func TestThePageExample(t *testing.T) {
	tokens := []int{i, plus, i, plus, i}
	tree := steps(step(1, 0, 5), step(0, 0, 3), step(2, 0, 1), step(2, 2, 3), step(2, 4, 5))
	derivation := steps(step(0, 0, 5), step(0, 0, 3), step(1, 0, 1), step(2, 0, 1), step(2, 2, 3), step(2, 4, 5))
	wantDerive(t, sums(), tokens, tree, derivation, nil)
	wantFold(t, sums(), tokens, derivation, tree, nil)
}

// The errors of both ways

// TestErrorsInTheirOrder: no tables ahead of too many tokens, these ahead of one that is no terminal, this ahead of steps that are no tree.
func TestErrorsInTheirOrder(t *testing.T) {
	x := sums()
	both := func(x *tables.Tables, tokens []int, list []api.Step, want error) {
		t.Helper()
		wantDerive(t, x, tokens, list, nil, want)
		wantFold(t, x, tokens, list, nil, want)
	}
	long := slices.Repeat([]int{i}, api.MaxTokens+1)
	wrong := slices.Repeat([]int{2}, api.MaxTokens+1)
	for _, list := range [][]api.Step{nil, sum(), derived(), steps(step(2, 0, 1)), steps(step(-1, -1, -1))} {
		for _, tokens := range [][]int{nil, {i}, {9}, long, wrong} {
			both(nil, tokens, list, api.ErrArg)
		}
		both(x, long, list, api.ErrLong)
		both(x, wrong, list, api.ErrLong)
		both(x, wrong[1:], list, api.ErrArg)
		both(x, long[1:], list, api.ErrTree)
		for _, token := range []int{2, 3, -1, 60, math.MaxInt, math.MinInt} {
			both(x, []int{token}, list, api.ErrArg)
			both(x, []int{i, plus, token}, list, api.ErrArg)
			both(x, []int{token, plus, i}, list, api.ErrArg)
		}
		both(x, nil, list, api.ErrTree)
	}
}

// TestTablesThatWereNotMade: they have no terminals and no rules.
func TestTablesThatWereNotMade(t *testing.T) {
	x := &tables.Tables{}
	for _, list := range [][]api.Step{nil, steps(step(0, 0, 0)), steps(step(0, 0, 1)), sum()} {
		wantDerive(t, x, nil, list, nil, api.ErrTree)
		wantFold(t, x, nil, list, nil, api.ErrTree)
		wantDerive(t, x, []int{0}, list, nil, api.ErrArg)
		wantFold(t, x, []int{0}, list, nil, api.ErrArg)
		wantDerive(t, x, make([]int, api.MaxTokens+1), list, nil, api.ErrLong)
		wantFold(t, x, make([]int, api.MaxTokens+1), list, nil, api.ErrLong)
	}
	// Of no rules there are no trees either.
	x = probe.Tables("S : S a")
	wantDerive(t, x, []int{0}, steps(step(0, 0, 1)), nil, api.ErrTree)
	wantFold(t, x, []int{0}, steps(step(0, 0, 1)), nil, api.ErrTree)
}

// TestNoTrees: of each way what is nearly a tree.
func TestNoTrees(t *testing.T) {
	tokens := []int{i, plus, i}
	turned := func(list []api.Step, at int, to api.Step) []api.Step {
		list = slices.Clone(list)
		list[at] = to
		return list
	}
	cases := [][]api.Step{nil, {}, steps(step(2, 0, 1)), steps(step(1, 0, 1), step(2, 0, 1)), steps(step(0, 0, 3))}
	for _, list := range [][]api.Step{sum(), derived()} {
		cases = append(cases, list[1:], append(slices.Clone(list), step(2, 2, 3)), slices.Concat(list, list), probe.Moved(list, 1), probe.Moved(list, -1), probe.Moved(list, math.MaxInt-2), probe.Moved(list, math.MinInt))
		for at, s := range list {
			cases = append(cases, list[:at], slices.Delete(slices.Clone(list), at, at+1), slices.Insert(slices.Clone(list), at, s))
			for _, other := range []int{-1, 3, 120, math.MaxInt, math.MinInt} {
				cases = append(cases, turned(list, at, step(other, s.From, s.To)))
			}
			for _, by := range []int{-1, 1, 2, math.MaxInt, math.MinInt} {
				cases = append(cases, turned(list, at, step(s.Rule, s.From+by, s.To)), turned(list, at, step(s.Rule, s.From, s.To+by)), turned(list, at, step(s.Rule, s.From+by, s.To+by)))
			}
		}
		last := len(list) - 1
		cases = append(cases, slices.Concat(list[:last-1], list[last:], list[last-1:last]))
	}
	for _, list := range cases {
		if slices.Equal(list, sum()) {
			// The derivation without its renaming.
			continue
		}
		wantDerive(t, sums(), tokens, list, nil, api.ErrTree)
		wantFold(t, sums(), tokens, list, nil, api.ErrTree)
	}
	// The one way takes nothing that the other one does.
	wantDerive(t, sums(), tokens, derived(), nil, api.ErrTree)
	wantFold(t, sums(), tokens, sum(), nil, api.ErrTree)
}

// TestOtherTokens: trees hold for their tokens alone.
func TestOtherTokens(t *testing.T) {
	for _, tokens := range [][]int{nil, {i}, {i, plus}, {i, i, i}, {plus, plus, i}, {i, plus, plus}, {i, plus, i, i}, {i, i, plus, i}, {i, plus, i, plus, i}} {
		wantDerive(t, sums(), tokens, sum(), nil, api.ErrTree)
		wantFold(t, sums(), tokens, derived(), nil, api.ErrTree)
	}
}

// TestOtherSets: a tree is one of a set where the normal form starts, and each child is of the set that its place has.
func TestOtherSets(t *testing.T) {
	x := sums()
	tokens := []int{i, plus, i, plus, i}
	right := steps(step(1, 0, 5), step(0, 0, 3), step(2, 0, 1), step(2, 2, 3), step(2, 4, 5))
	wrong := slices.Clone(right)
	wrong[0].Rule = 0 // of an E T on its left, and an E stands there
	wantDerive(t, x, tokens, wrong, nil, api.ErrTree)
	wrong = slices.Clone(right)
	wrong[1].Rule = 1
	wantDerive(t, x, tokens, wrong, nil, api.ErrTree)
	// T is no axiom: the set of B alone is none where it starts.
	x = probe.Tables("S : a B; B : b")
	wantDerive(t, x, []int{1}, steps(step(1, 0, 1)), nil, api.ErrTree)
	wantDerive(t, x, []int{0, 1}, steps(step(0, 0, 2), step(1, 1, 2)), steps(step(0, 0, 2), step(1, 1, 2)), nil)
	wantFold(t, x, []int{1}, steps(step(1, 0, 1)), nil, api.ErrTree)
}

// Which derivation is taken

// TestChoices: the shortest chain, whatever its rules; of these the least one, whatever rule stands behind it; then the least rule.
func TestChoices(t *testing.T) {
	cases := []struct {
		text string
		want []int
	}{
		{"S : a", []int{0}},
		{"S : A; A : a", []int{0, 1}},
		{"S : A; A : a; S : a", []int{2}},           // no renaming is shorter than one
		{"S : A; A : B; B : a; A : a", []int{0, 3}}, // one is shorter than two
		{"S : A; A : B; B : a; S : B", []int{3, 2}}, // though its rules are higher
		{"S : A | B; A : C; B : a; C : a", []int{1, 3}},
		{"S : A | B; B : a; A : a", []int{0, 3}}, // the least chain, with a higher rule behind it
		{"S : B | A; B : a; A : a", []int{0, 2}},
		{"S : A; S : A; A : a; A : a", []int{0, 2}}, // of two that are the same
		{"S : B | A; A : C; B : D; C : a; D : a", []int{0, 3, 5}},
		{"S : A | B; A : D; B : C; C : a; D : a", []int{0, 2, 5}},
		{"S : A | A; A : D | C; C : a; D : a", []int{0, 2, 5}},
		{"S : S | A; A : S | A | B; B : A | S | a", []int{1, 4, 7}}, // rounds are gone round
		{"S : A | B | C; A : a; C : A; B : C; S : b", []int{0, 3}},
	}
	for _, c := range cases {
		x := probe.Tables(c.text)
		var want []api.Step
		for _, rule := range c.want {
			want = append(want, step(rule, 0, 1))
		}
		rule, _ := x.Find([]int{0})
		wantDerive(t, x, []int{0}, steps(step(rule, 0, 1)), want, nil)
		wantFold(t, x, []int{0}, want, steps(step(rule, 0, 1)), nil)
	}
}

// TestChoicesOfChildren: a rule fits by the sets at its places, and its nonterminals are what the children are derived from.
func TestChoicesOfChildren(t *testing.T) {
	// ( of an A or a B, ) of a B alone: b is of the one, a of both.
	x := probe.Tables("S : ( A ) | ( B ); A : a; B : b | a")
	a, b := 2, 3
	for token, want := range map[int][]int{a: {0, 2}, b: {1, 3}} {
		tokens := []int{0, token, 1}
		tree := steps(step(0, 0, 3), step(0, 1, 2))
		child, _ := x.Find([]int{token})
		set, _ := x.Left(child)
		tree[0].Rule, _ = x.Find([]int{0, -1 - set, 1})
		tree[1].Rule = child
		wantDerive(t, x, tokens, tree, steps(step(want[0], 0, 3), step(want[1], 1, 2)), nil)
	}
	// Each child by its own place: the same rule of the normal form is derived from each of two nonterminals.
	x = probe.Tables("S : A , B; A : C; B : c; C : c")
	c, comma := 1, 0
	tokens := []int{c, comma, c}
	child, _ := x.Find([]int{c})
	set, _ := x.Left(child)
	root, _ := x.Find([]int{-1 - set, comma, -1 - set})
	tree := steps(step(root, 0, 3), step(child, 0, 1), step(child, 2, 3))
	want := steps(step(0, 0, 3), step(1, 0, 1), step(3, 0, 1), step(2, 2, 3))
	wantDerive(t, x, tokens, tree, want, nil)
	wantFold(t, x, tokens, want, tree, nil)
}

// TestFoldOfOtherDerivations: whichever chains and rules a derivation takes, rounds too, it's the one tree.
func TestFoldOfOtherDerivations(t *testing.T) {
	x := probe.Tables("S : S | A; A : S | A | B; B : A | S | a; S : a")
	tree := steps(step(0, 0, 1))
	for _, rules := range [][]int{{8}, {0, 8}, {0, 0, 0, 8}, {1, 4, 7}, {1, 3, 4, 7}, {1, 2, 8}, {1, 4, 5, 4, 6, 1, 2, 0, 8}} {
		var derivation []api.Step
		for _, rule := range rules {
			derivation = append(derivation, step(rule, 0, 1))
		}
		wantFold(t, x, []int{0}, derivation, tree, nil)
		wantFold(t, x, []int{0}, derivation[:len(derivation)-1], nil, api.ErrTree)
	}
	wantDerive(t, x, []int{0}, tree, steps(step(8, 0, 1)), nil)
}

// P19.2

func TestChain(t *testing.T) {
	g := probe.Read("A : B; B : C; C : D; A : C; D : A; B : D; A : C; E : A; D : t; D : E t; E : B C")
	a, b, c, d, e := 0, 1, 2, 3, 4
	wantChain(t, g, a, a, true)
	wantChain(t, g, a, b, true, 0)
	wantChain(t, g, a, c, true, 3) // not 0 1; and not 6, which is the same
	wantChain(t, g, a, d, true, 0, 5)
	wantChain(t, g, a, e, false)
	wantChain(t, g, b, a, true, 5, 4)
	wantChain(t, g, b, c, true, 1)
	wantChain(t, g, b, d, true, 5)
	wantChain(t, g, c, b, true, 2, 4, 0)
	wantChain(t, g, d, c, true, 4, 3)
	wantChain(t, g, e, d, true, 7, 0, 5)
	wantChain(t, g, e, e, true)
	wantChain(t, g, d, e, false) // no renaming leads there
	for _, from := range []int{-1, -2, 5, 6, 63, 64, math.MaxInt, math.MinInt} {
		wantChain(t, g, from, a, false)
		wantChain(t, g, a, from, false)
		wantChain(t, g, from, from, false)
	}
}

// TestChainOfGrammarsThatMayNotBe: of all others there may be chains, with empty right sides and nonterminals side by side, too.
func TestChainOfGrammarsThatMayNotBe(t *testing.T) {
	g := probe.Read("A : B; B : A A | b; A : a")
	g.Rules = append(g.Rules, probe.Rule(1), probe.Rule(1, -1))
	wantChain(t, g, 0, 1, true, 0)
	wantChain(t, g, 1, 0, true, 5)
	for _, w := range probe.Wrongs(g) {
		for from := -1; from < 3; from++ {
			for to := -1; to < 3; to++ {
				wantChain(t, w.Grammar, from, to, false)
			}
		}
	}
}
