package backmap_test

import (
	"slices"
	"testing"

	"dovetail/api"
	"dovetail/backmap"
	"dovetail/deriv"
	"dovetail/gram"
	"dovetail/matrix"
	"dovetail/parse"
	"dovetail/probe"
	"dovetail/tables"
)

// someTables are those of several packages' tests, and some of grammars in which most rules are renamings.
func someTables() []*tables.Tables { return append(probe.SomeTables(), renamingTables(40)...) }

// renamingTables are of that many grammars, whose axioms derive some rows, with rules by which there is no clash.
func renamingTables(many int) []*tables.Tables {
	var n probe.Numbers
	var list []*tables.Tables
	for len(list) < many {
		g := api.Grammar{Terms: probe.Letters('a', 2+n.Below(3)), Nonterms: probe.Letters('A', 3+n.Below(5))}
		for range 10 + n.Below(15) {
			r := probe.Rule(n.Below(len(g.Nonterms)), -1-n.Below(len(g.Nonterms)))
			if n.Below(2) == 0 {
				r = probe.OperatorRule(&n, g, 1+n.Below(4), 2)
			}
			g = withoutClash(g, r)
		}
		if d, ok := probe.NewDeriver(g); !ok || len(d.Row(&n, 8)) < 3 {
			continue
		}
		if x, err := tables.Make(g); err == nil {
			list = append(list, x)
		}
	}
	return list
}

// withoutClash is a grammar with a rule more, if it has no clash with that.
func withoutClash(g api.Grammar, r api.Rule) api.Grammar {
	more := g
	more.Rules = append(slices.Clone(g.Rules), r)
	m, err := matrix.Of(more)
	if err != nil {
		return g
	}
	if _, clash := m.Clash(); clash {
		return g
	}
	return more
}

// deriverOf is one of tables' grammar, which is to have some rows.
func deriverOf(x *tables.Tables) *probe.Deriver {
	d, ok := probe.NewDeriver(x.Grammar())
	if !ok {
		panic("no rows")
	}
	return d
}

// P19.1, P19.3, P19.4

// TestThereAndBack: of rows that are derived the parser's tree is derived, and what it was derived as, by whichever derivation, is folded.
func TestThereAndBack(t *testing.T) {
	var n probe.Numbers
	others, renamed := 0, 0
	for _, x := range someTables() {
		m, d := newModel(x), deriverOf(x)
		for range 60 {
			derivation, tokens := d.Tree(&n, n.Below(50))
			r, err := parse.Parse(x, tokens)
			if err != nil {
				t.Fatalf("%v: %v: %v", m.g, tokens, err)
			}
			if err := m.checkDerive(t, x, tokens, r.Tree); err != nil {
				t.Fatalf("%v: Derive of %v with %v: %v", m.g, tokens, r.Tree, err)
			}
			if err := m.checkFold(t, x, tokens, derivation); err != nil {
				t.Fatalf("%v: Fold of %v with %v: %v", m.g, tokens, derivation, err)
			}
			least, _ := backmap.Derive(x, tokens, r.Tree)
			if !slices.Equal(least, derivation) {
				others++
			}
			if len(least) > len(r.Tree) {
				renamed++
			}
			// Of one step there is no shorter derivation.
			if len(r.Tree) == 1 && len(least) > len(derivation) {
				t.Fatalf("%v: %v is longer than %v", m.g, least, derivation)
			}
		}
	}
	if min(others, renamed) < 1000 {
		t.Errorf("%d derivations are others, %d have renamings", others, renamed)
	}
}

// TestSpoiledTrees: trees, derivations and tokens that are spoiled, of which some are right still.
func TestSpoiledTrees(t *testing.T) {
	var n probe.Numbers
	faults := make(map[error]int)
	for _, x := range someTables() {
		m, d := newModel(x), deriverOf(x)
		for range 60 {
			derivation, tokens := d.Tree(&n, n.Below(12))
			r, _ := parse.Parse(x, tokens)
			for range 4 {
				tree, other := r.Tree, derivation
				for range 1 + n.Below(2) {
					tree = probe.SpoiledSteps(&n, len(m.n.Rules), tree)
					other = probe.SpoiledSteps(&n, len(m.g.Rules), other)
				}
				faults[m.checkDerive(t, x, tokens, tree)]++
				faults[m.checkFold(t, x, tokens, other)]++
				spoiled := probe.Spoiled(&n, x.Terms()+1, tokens)
				faults[m.checkDerive(t, x, spoiled, r.Tree)]++
				faults[m.checkFold(t, x, spoiled, derivation)]++
			}
			// Each way with what the other one takes: without renamings, and with rules of the same numbers, that may be right.
			m.checkDerive(t, x, tokens, derivation)
			m.checkFold(t, x, tokens, r.Tree)
		}
	}
	if faults[nil] < 1000 || faults[api.ErrTree] < 10000 || faults[api.ErrArg] < 1000 {
		t.Errorf("%v", faults)
	}
}

// TestAllSmallTrees: all lists of up to two steps of few rules and places, and some of three, for all short rows of tokens.
func TestAllSmallTrees(t *testing.T) {
	for _, text := range []string{"S : T | b S | b T; T : a", "S : S b T | T; T : a"} {
		x := probe.Tables(text)
		m := newModel(x)
		var all []api.Step
		for rule := -1; rule < 5; rule++ {
			for from := range 3 {
				for to := range 4 {
					all = append(all, step(rule, from, to))
				}
			}
		}
		derived, folded := 0, 0
		for _, tokens := range probe.Sides(3, 0, 1) {
			for k, a := range all {
				for l, b := range all {
					for _, list := range [][]api.Step{{a}, {a, b}, {a, b, step((k+l)%5, 2, 3)}} {
						if m.checkDerive(t, x, tokens, list) == nil {
							derived++
						}
						if m.checkFold(t, x, tokens, list) == nil {
							folded++
						}
					}
				}
			}
		}
		if derived == 0 || folded == 0 {
			t.Errorf("%s: %d derived, %d folded", text, derived, folded)
		}
	}
}

// TestRulesInAnotherOrder: the derivation has other numbers then, but no more steps.
func TestRulesInAnotherOrder(t *testing.T) {
	var n probe.Numbers
	for _, x := range someTables() {
		d := deriverOf(x)
		for range 5 {
			y, err := tables.Make(probe.Shuffled(x.Grammar(), &n))
			if err != nil {
				t.Fatal(err)
			}
			_, tokens := d.Tree(&n, n.Below(30))
			r, _ := parse.Parse(x, tokens)
			one, err := backmap.Derive(x, tokens, r.Tree)
			if err != nil {
				t.Fatalf("%v: %v", x.Grammar(), err)
			}
			m := newModel(y)
			if err := m.checkDerive(t, y, tokens, r.Tree); err != nil {
				t.Fatalf("%v: %v", y.Grammar(), err)
			}
			if two, _ := backmap.Derive(y, tokens, r.Tree); len(r.Tree) == 1 && len(one) != len(two) {
				t.Fatalf("%v: %v and %v", x.Grammar(), one, two)
			}
		}
	}
}

// P19.2

// TestChains: of grammars of all kinds, between all nonterminals.
func TestChains(t *testing.T) {
	var n probe.Numbers
	grammars := probe.MixedGrammars(60)
	for _, x := range someTables() {
		grammars = append(grammars, x.Grammar())
	}
	for range 300 {
		g := api.Grammar{Nonterms: probe.Letters('A', 1+n.Below(6))}
		for range n.Below(12) {
			g.Rules = append(g.Rules, probe.Rule(n.Below(len(g.Nonterms)), -1-n.Below(len(g.Nonterms))))
		}
		grammars = append(grammars, g)
	}
	found, missing := 0, 0
	for _, g := range grammars {
		above := gram.Above(g)
		for from := -1; from <= len(g.Nonterms); from++ {
			for to := -1; to <= len(g.Nonterms); to++ {
				some := checkChain(t, g, from, to)
				if some {
					found++
				} else {
					missing++
				}
				if to >= 0 && to < len(above) && some != (from >= 0 && above[to]>>from&1 == 1) {
					t.Fatalf("%v: Chain of %d and %d: %v, above it is %b", g, from, to, some, above[to])
				}
			}
		}
	}
	if min(found, missing) < 2000 {
		t.Errorf("%d chains, %d times none", found, missing)
	}
}

// TestLongChains: 59 renamings, by rules that fall or rise; and rows of two at each step, of which 2^58 would be too many to be looked at.
func TestLongChains(t *testing.T) {
	g := api.Grammar{Nonterms: probe.Names("n", api.MaxSymbols)}
	for from := range api.MaxSymbols - 1 {
		g.Rules = append(g.Rules, probe.Rule(from, -1-(from+1)), probe.Rule(from, -1-(from+1)))
	}
	var rising, falling []int
	for k := range api.MaxSymbols - 1 {
		rising, falling = append(rising, 2*k), append(falling, 2*(api.MaxSymbols-2-k))
	}
	wantChain(t, g, 0, api.MaxSymbols-1, true, rising...)
	wantChain(t, g, api.MaxSymbols-1, 0, false)
	slices.Reverse(g.Rules)
	wantChain(t, g, 0, api.MaxSymbols-1, true, falling...)
	g.Rules = append(g.Rules, probe.Rule(0, -api.MaxSymbols))
	wantChain(t, g, 0, api.MaxSymbols-1, true, len(g.Rules)-1)
}

// Long ones

// TestManyTokens: as many as there may be, deep and flat.
func TestManyTokens(t *testing.T) {
	const half = api.MaxTokens / 2
	flat := append(slices.Repeat([]int{1, 0}, half-1), 1)
	all := make([]int, api.MaxTokens)
	cases := []struct {
		text   string
		tokens []int
		steps  int
	}{
		{"S : a S b | a b", append(make([]int, half), slices.Repeat([]int{1}, half)...), half},
		{"E : E + T | T; T : i", flat, 2 * half},
		{"E : T ^ E | T; T : i", flat, 2 * half},
		{"S : a S | a", all, 2 * half},
		{"S : S a | a", all, 2 * half},
		{"S : T; T : U; U : S a | a", all, 4*half + 2*half},
	}
	for _, c := range cases {
		x := probe.Tables(c.text)
		r, err := parse.Parse(x, c.tokens)
		if err != nil {
			t.Fatalf("%s: %v", c.text, err)
		}
		derivation, err := backmap.Derive(x, c.tokens, r.Tree)
		if err != nil || len(derivation) != c.steps {
			t.Fatalf("%s: %d steps, %v", c.text, len(derivation), err)
		}
		root, ok := probe.TreeOf(x.Grammar().Rules, derivation)
		if !ok || root.Symbol != -1 || !slices.Equal(root.Tokens(), c.tokens) {
			t.Fatalf("%s: %v is no tree", c.text, brief(derivation))
		}
		// Layer 18 takes 2^17 steps.
		want, fault := r.Tree, error(nil)
		if c.steps > deriv.MaxSteps {
			want, fault = nil, api.ErrTree
		}
		wantFold(t, x, c.tokens, derivation, want, fault)
		// One step or token less.
		for _, less := range [][]api.Step{r.Tree[1:], r.Tree[:len(r.Tree)-1]} {
			wantDerive(t, x, c.tokens, less, nil, api.ErrTree)
		}
		for _, less := range [][]int{c.tokens[1:], c.tokens[:len(c.tokens)-1]} {
			wantDerive(t, x, less, r.Tree, nil, api.ErrTree)
			wantFold(t, x, less, derivation, nil, api.ErrTree)
		}
	}
}

// TestManySteps: derivations of as many steps as layer 18 takes, and of one more, which it doesn't: Derive answers that, and Fold refuses it.
func TestManySteps(t *testing.T) {
	x := probe.Tables("S : S a | a; S : T; T : S")
	g := x.Grammar()
	tokens := make([]int, api.MaxTokens)
	r, err := parse.Parse(x, tokens)
	if err != nil {
		t.Fatal(err)
	}
	// At each second step a round of two renamings.
	var derivation []api.Step
	for to := api.MaxTokens; to > 0; to-- {
		if to%2 == 0 {
			derivation = append(derivation, step(2, 0, to), step(3, 0, to))
		}
		rule := 0
		if to == 1 {
			rule = 1
		}
		derivation = append(derivation, step(rule, 0, to))
	}
	if len(derivation) != deriv.MaxSteps || deriv.Check(g, tokens, derivation) != nil {
		t.Fatalf("%d steps", len(derivation))
	}
	wantFold(t, x, tokens, derivation, r.Tree, nil)
	more := slices.Concat(steps(step(2, 0, api.MaxTokens), step(3, 0, api.MaxTokens)), derivation)
	wantFold(t, x, tokens, more, nil, api.ErrTree)
	many := slices.Repeat(steps(step(0, 0, 1)), 1<<20)
	wantFold(t, x, tokens, many, nil, api.ErrTree)
	wantDerive(t, x, tokens, many, nil, api.ErrTree)
}

// TestTheMostRenamings: 58 at each of 32768 steps.
func TestTheMostRenamings(t *testing.T) {
	g := api.Grammar{Terms: []string{"a", "b"}, Nonterms: probe.Names("n", api.MaxSymbols-2)}
	for from := range len(g.Nonterms) - 1 {
		g.Rules = append(g.Rules, probe.Rule(from, -1-(from+1)))
	}
	last := len(g.Nonterms) - 1
	g.Rules = append(g.Rules, probe.Rule(last, 0, -1, 1), probe.Rule(last, 0, 1))
	x, err := tables.Make(g)
	if err != nil {
		t.Fatal(err)
	}
	const half = api.MaxTokens / 2
	tokens := append(make([]int, half), slices.Repeat([]int{1}, half)...)
	r, err := parse.Parse(x, tokens)
	if err != nil {
		t.Fatal(err)
	}
	derivation, err := backmap.Derive(x, tokens, r.Tree)
	if err != nil || len(derivation) != half*(last+1) {
		t.Fatalf("%d steps, %v", len(derivation), err)
	}
	for k, s := range derivation {
		deep, of := k/(last+1), k%(last+1)
		want := step(of, deep, api.MaxTokens-deep)
		if of == last && deep == half-1 {
			want.Rule++
		}
		if s != want {
			t.Fatalf("step %d is %v, want %v", k, s, want)
		}
	}
	wantFold(t, x, tokens, derivation, nil, api.ErrTree)
}

// P19.5

// TestMemory: what is handed in stays, the room behind it, too, and may be changed behind a call; answers are new each time.
func TestMemory(t *testing.T) {
	var n probe.Numbers
	for _, x := range someTables() {
		d := deriverOf(x)
		g, normal := x.Grammar(), x.Normal()
		for range 10 {
			drawn, row := d.Tree(&n, n.Below(20))
			r, _ := parse.Parse(x, row)
			tokens := append(slices.Clone(row), 9)[:len(row)]
			derivation := append(slices.Clone(drawn), step(9, 9, 9))[:len(drawn)]
			tree := append(slices.Clone(r.Tree), step(9, 9, 9))[:len(r.Tree)]
			var derived, folded [][]api.Step
			for range 2 {
				one, _ := backmap.Derive(x, tokens, tree)
				two, _ := backmap.Fold(x, tokens, derivation)
				derived, folded = append(derived, one), append(folded, two)
			}
			if !probe.Apart(slices.Concat(derived, folded, [][]api.Step{tree, derivation})...) {
				t.Fatalf("answers of %v share memory", row)
			}
			if !slices.Equal(tokens[:len(row)+1], append(slices.Clone(row), 9)) || !slices.Equal(tree[:len(tree)+1], append(slices.Clone(r.Tree), step(9, 9, 9))) || !slices.Equal(derivation[:len(drawn)+1], append(slices.Clone(drawn), step(9, 9, 9))) {
				t.Fatalf("%v, %v, %v became %v, %v, %v", row, r.Tree, drawn, tokens, tree, derivation)
			}
			want := slices.Clone(derived[1])
			clear(tokens)
			clear(tree)
			clear(derivation)
			clear(derived[0][:cap(derived[0])])
			clear(folded[0][:cap(folded[0])])
			if !slices.Equal(derived[1], want) || !slices.Equal(folded[1], r.Tree) {
				t.Fatalf("%v became %v, %v", r.Tree, derived, folded)
			}
			wantDerive(t, x, row, r.Tree, want, nil)
			wantFold(t, x, row, drawn, r.Tree, nil)
		}
		if !gram.Same(g, x.Grammar()) || !slices.Equal(normal.Sets, x.Normal().Sets) {
			t.Fatalf("the tables of %v changed", g)
		}
	}
}

func TestMemoryOfChains(t *testing.T) {
	g := probe.Read("A : B; B : C; C : D; D : A; D : t")
	roomy := probe.Roomy(g)
	before := probe.Roomy(probe.Whole(roomy))
	var chains [][]int
	for range 2 {
		for from := range 4 {
			for to := range 4 {
				chain, _ := backmap.Chain(roomy, from, to)
				chains = append(chains, chain)
			}
		}
	}
	if !probe.Apart(chains...) || !gram.Same(probe.Whole(roomy), before) {
		t.Fatalf("%v, %v became %v", chains, before, probe.Whole(roomy))
	}
	clear(roomy.Rules)
	for _, chain := range chains {
		clear(chain[:cap(chain)])
	}
	wantChain(t, g, 0, 3, true, 0, 1, 2)
}

// TestCallsHaveNothingToDoWithEachOther: behind one that was wrong the next is as ever.
func TestCallsHaveNothingToDoWithEachOther(t *testing.T) {
	x := sums()
	for range 3 {
		wantDerive(t, x, []int{i, plus, i}, sum()[:2], nil, api.ErrTree)
		wantFold(t, x, []int{i, plus, i}, derived()[:3], nil, api.ErrTree)
		wantDerive(t, x, []int{i, plus, i}, sum(), derived(), nil)
		wantFold(t, x, []int{i, plus, i}, derived(), sum(), nil)
	}
}

// TestCallsSideBySide: several at once, with the same tables.
func TestCallsSideBySide(t *testing.T) {
	x := sums()
	tokens := append(slices.Repeat([]int{i, plus}, 300), i)
	r, _ := parse.Parse(x, tokens)
	want, _ := backmap.Derive(x, tokens, r.Tree)
	answers := make(chan []api.Step)
	for range 8 {
		go func() {
			derivation, _ := backmap.Derive(x, tokens, r.Tree)
			tree, _ := backmap.Fold(x, tokens, derivation)
			answers <- slices.Concat(derivation, tree)
		}()
	}
	for range 8 {
		if got := <-answers; !slices.Equal(got, slices.Concat(want, r.Tree)) {
			t.Errorf("%d steps", len(got))
		}
	}
}
