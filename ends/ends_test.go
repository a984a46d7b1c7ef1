package ends_test

import (
	"math"
	"slices"
	"strings"
	"testing"

	"dovetail/api"
	"dovetail/ends"
	"dovetail/gram"
	"dovetail/probe"
	"dovetail/sets"
)

// example is the grammar of the chapter's examples.
func example() api.Grammar { return probe.Read("E : E + T | T; T : T * F | F; F : ( E ) | i") }

// named are sets of terminals as their names, parted by ;.
func named(g api.Grammar, list []api.Set) string {
	var texts []string
	for _, s := range list {
		texts = append(texts, strings.Trim(sets.Text(s, func(n int) string { return g.Terms[n] }), "{}"))
	}
	return strings.Join(texts, "; ")
}

func checkOf(t *testing.T, g api.Grammar, left, right string) {
	t.Helper()
	e, err := ends.Of(g)
	if err != nil || named(g, e.Left) != left || named(g, e.Right) != right {
		t.Errorf("Of %v: %q, %q, %v, want %q, %q", g, named(g, e.Left), named(g, e.Right), err, left, right)
	}
}

func same(a, b ends.Ends) bool { return slices.Equal(a.Left, b.Left) && slices.Equal(a.Right, b.Right) }

// mustOf is the ends of a grammar that may be.
func mustOf(t *testing.T, g api.Grammar) ends.Ends {
	t.Helper()
	e, err := ends.Of(g)
	if err != nil || len(e.Left) != len(g.Nonterms) || len(e.Right) != len(g.Nonterms) {
		t.Fatalf("Of %v: %v, %v", g, e, err)
	}
	return e
}

func checkChain(t *testing.T, g api.Grammar, nonterm, term int, right bool, want ...int) {
	t.Helper()
	if chain, err := ends.Chain(g, nonterm, term, right); err != nil || !slices.Equal(chain, want) {
		t.Errorf("Chain of %d and %d, right %v, of %v: %v, %v, want %v", nonterm, term, right, g.Rules, chain, err, want)
	}
}

func checkNoChain(t *testing.T, g api.Grammar, nonterm, term int, right bool, want error) {
	t.Helper()
	if chain, err := ends.Chain(g, nonterm, term, right); probe.Which(err) != want || len(chain) > 0 {
		t.Errorf("Chain of %d and %d, right %v, of %v: %v, %v, want %v", nonterm, term, right, g.Rules, chain, err, want)
	}
}

// P8.1

func TestOf(t *testing.T) {
	cases := []struct{ text, left, right string }{
		{"S : a", "a", "a"},
		{"S : | a", "a", "a"},
		{"S :", "", ""},
		{"S : S", "", ""},
		{"S : S S", "", ""},
		{"S : a b", "a", "b"},
		{"S : a b c", "a", "c"},
		{"S : a S", "a", "a"},
		{"S : S a", "a", "a"},
		{"S : a S b", "a", "b"},
		{"S : a S S", "a", ""},
		{"S : S S a", "", "a"},
		{"S : S a S", "a", "a"},
		{"S : S a b S", "a", "b"},
		{"S : S a S b S", "a", "b"},
		{"S : a | b; A : b | c", "a b; b c", "a b; b c"},
		{"S : A; A : a b", "a; a", "b; b"},
		{"S : A c; A : a b", "c a; a", "c; b"},
		{"S : c A; A : a b", "c; a", "c b; b"},
		{"S : A c B; A : a b; B : d e", "c a; a; d", "c e; b; e"},
		{"S : A B; A : a b; B : c d", "a; a; c", "d; b; d"},
		{"S : A A c A A; A : a b", "a; a", "b; b"},
		{"S : A x; A : B y; B : S z", "x y z; x y z; x y z", "x; y; z"},
		{"S : x A; A : y B; B : z S", "x; y; z", "x y z; x y z; x y z"},
		{"S : A; A : B; B : S | b", "b; b; b", "b; b; b"},
		{"B : b | S; A : B; S : A", "b; b; b", "b; b; b"},
	}
	for _, c := range cases {
		checkOf(t, probe.Read(c.text), c.left, c.right)
	}
}

// What derives nothing, or no tokens, stands there like all else: nothing is looked for behind it but the one terminal.
func TestOfBesideEmptyRightSides(t *testing.T) {
	checkOf(t, probe.Read("S : A a b A; A :"), "a; ", "b; ")
	checkOf(t, probe.Read("S : A B a; A : ; B : b"), "; ; b", "a; ; b")
	checkOf(t, probe.Read("S : a B A; A : ; B : b"), "a; ; b", "; ; b")
	checkOf(t, probe.Read("S : A B a; A : A; B : b"), "; ; b", "a; ; b")
	checkOf(t, probe.Read("S : A B; A : | c; B : b | "), "c; c; b", "b; c; b")
}

// Neither what the axiom is matters, nor whether a nonterminal is reached from it, or derives any tokens.
func TestOfAllNonterminals(t *testing.T) {
	g := probe.Read("S : a; A : b A | A c; B : C d; C : e B")
	for axiom := range g.Nonterms {
		g.Axiom = axiom
		checkOf(t, g, "a; b c; d e; e", "a; b c; d; d e")
	}
}

func TestOfNothing(t *testing.T) {
	checkOf(t, api.Grammar{Nonterms: []string{"S"}}, "", "")
	checkOf(t, api.Grammar{Terms: []string{"a", "b"}, Nonterms: []string{"S", "A"}}, "; ", "; ")
	checkOf(t, api.Grammar{Nonterms: []string{"S", "A"}, Rules: []api.Rule{probe.Rule(0, -2, -1), probe.Rule(1)}}, "; ", "; ")
	g := api.Grammar{Terms: []string{"a", "b"}, Nonterms: []string{"S", "A"}, Rules: []api.Rule{probe.Rule(0, -2), probe.Rule(0, 1)}}
	checkOf(t, g, "b; ", "b; ")
}

// ladder is a grammar of n nonterminals, each leading on both sides to the next one, the last one to a terminal that stands alone; the rules in their order or from the last on.
func ladder(n int, backwards bool) api.Grammar {
	g := api.Grammar{Terms: []string{"a"}, Nonterms: probe.Names("N", n)}
	for k := range n - 1 {
		g.Rules = append(g.Rules, probe.Rule(k, -2-k, -2-k))
	}
	g.Rules = append(g.Rules, probe.Rule(n-1, 0))
	if backwards {
		slices.Reverse(g.Rules)
	}
	return g
}

const mostNonterms = api.MaxSymbols - 1

func TestOfLongChains(t *testing.T) {
	for _, backwards := range []bool{false, true} {
		g := ladder(mostNonterms, backwards)
		all := strings.Repeat("a; ", mostNonterms-1) + "a"
		checkOf(t, g, all, all)
		g.Rules = slices.DeleteFunc(g.Rules, func(r api.Rule) bool { return r.Left == 29 })
		half := strings.Repeat("; ", 30) + strings.Repeat("a; ", mostNonterms-31) + "a"
		checkOf(t, g, half, half)
	}
}

func TestOfAllTerminals(t *testing.T) {
	g := api.Grammar{Terms: probe.Names("t", mostNonterms), Nonterms: []string{"S"}}
	for k := range g.Terms {
		g.Rules = append(g.Rules, probe.Rule(0, append([]int{k}, slices.Repeat([]int{-1}, api.MaxRight-1)...)...))
		g.Rules = append(g.Rules, probe.Rule(0, append(slices.Repeat([]int{-1}, api.MaxRight-2), k, -1)...))
	}
	if e := mustOf(t, g); e.Left[0] != sets.Full(mostNonterms) || e.Right[0] != sets.Full(mostNonterms) {
		t.Errorf("Of: %v", e)
	}
}

func TestOfManyGrammars(t *testing.T) {
	for _, g := range slices.Concat(manyGrammars(), smallGrammars(), wideGrammars()) {
		want := endsOf(g)
		if e := mustOf(t, g); !same(e, want) {
			t.Errorf("Of %v: %v, want %v", g, e, want)
		}
	}
}

// TestWrongGrammars: both calls tell gram's error ahead of their own, and nothing else.
func TestWrongGrammars(t *testing.T) {
	for _, w := range append(probe.Wrongs(example()), probe.Wrongs(probe.Read("S : S"))...) {
		want := gram.Check(w.Grammar)
		check := func(call string, err error, zero bool) {
			if probe.Which(err) != probe.Which(want) || probe.RuleOf(err) != probe.RuleOf(want) || want == nil {
				t.Errorf("%s, %s: %v, want %v", call, w.What, err, want)
			}
			if !zero {
				t.Errorf("%s, %s: an answer beside the error", call, w.What)
			}
		}
		e, err := ends.Of(w.Grammar)
		check("Of", err, len(e.Left) == 0 && len(e.Right) == 0)
		for n := -1; n < 70; n++ {
			for term := -1; term < 70; term++ {
				chain, err := ends.Chain(w.Grammar, n, term, (n+term)%2 == 0)
				check("Chain", err, len(chain) == 0)
			}
		}
	}
}

// P8.2

func TestChain(t *testing.T) {
	cases := []struct {
		text string
		// Chains of the first nonterminal for the first terminal; none where there is no chain.
		left, right []int
	}{
		{"S : a", []int{0}, []int{0}},
		{"S : | a", []int{1}, []int{1}},
		{"S : a | a", []int{0}, []int{0}},
		{"S : S | S S | S a S | a", []int{2}, []int{2}},
		{"S : S S a", nil, []int{0}},
		{"S : a S S", []int{0}, nil},
		{"S : A A | A a; A : a", []int{1}, []int{1}},
		{"S : A; A : B; B : S | a", []int{0, 1, 3}, []int{0, 1, 3}},
		// The shorter one, though it is the greater list.
		{"S : A | B; A : B; B : a", []int{1, 3}, []int{1, 3}},
		{"S : A | B | C; A : D; B : D; C : a; D : a", []int{2, 5}, []int{2, 5}},
		// Of two of one length the first place at which they differ tells.
		{"S : B | A; A : a; B : a", []int{0, 3}, []int{0, 3}},
		{"S : A | B; A : a; B : a", []int{0, 2}, []int{0, 2}},
		{"S : B | A; A : C; B : D; C : a; D : a", []int{0, 3, 5}, []int{0, 3, 5}},
		{"S : B | A; A : C; B : C; C : a", []int{0, 3, 4}, []int{0, 3, 4}},
		{"S : C | B; B : D; C : E | D; D : a; E : D", []int{0, 4, 5}, []int{0, 4, 5}},
		// The sides have chains of their own.
		{"S : A B a A; A : B a A | B; B : S S a B | a", []int{0, 1}, []int{0}},
		{"S : A B; A : C c | a; B : a C; C : a", []int{0, 2}, []int{0, 3}},
		{"S : A A B; A : A; B : C; C : B a", nil, []int{0, 2, 3}},
	}
	for _, c := range cases {
		g := probe.Read(c.text)
		a, _ := gram.Term(g, "a")
		for right, want := range map[bool][]int{false: c.left, true: c.right} {
			if len(want) == 0 {
				checkNoChain(t, g, 0, a, right, api.ErrNone)
				continue
			}
			checkChain(t, g, 0, a, right, want...)
		}
	}
}

func TestChainOfNothing(t *testing.T) {
	g := api.Grammar{Terms: []string{"a", "b"}, Nonterms: []string{"S", "A", "B"}, Rules: []api.Rule{probe.Rule(0, -2), probe.Rule(2, 1)}}
	for _, right := range []bool{false, true} {
		for term := range g.Terms {
			checkNoChain(t, g, 0, term, right, api.ErrNone)
			checkNoChain(t, g, 1, term, right, api.ErrNone)
		}
		checkNoChain(t, g, 2, 0, right, api.ErrNone)
		checkChain(t, g, 2, 1, right, 1)
	}
}

func TestChainOfWrongNumbers(t *testing.T) {
	for _, g := range []api.Grammar{example(), probe.Read("E : E; T : T; F : F | + * ( ) i"), {Terms: probe.Letters('a', 5), Nonterms: probe.Letters('A', 3)}} {
		for _, right := range []bool{false, true} {
			for _, n := range []int{-1, -2, 5, 6, 60, 63, 64, 65, 128, math.MinInt, math.MaxInt} {
				for ok := range 3 {
					checkNoChain(t, g, ok, n, right, api.ErrArg)
					checkNoChain(t, g, n, ok, right, api.ErrArg)
				}
				checkNoChain(t, g, n, n, right, api.ErrArg)
			}
			checkNoChain(t, g, 3, 0, right, api.ErrArg)
			checkNoChain(t, g, 4, 4, right, api.ErrArg)
			checkNoChain(t, api.Grammar{Nonterms: []string{"S"}}, 0, 0, right, api.ErrArg)
		}
	}
}

func TestChainOfTheMostRules(t *testing.T) {
	for _, backwards := range []bool{false, true} {
		g := ladder(mostNonterms, backwards)
		var want []int
		for k := range g.Rules {
			want = append(want, k)
		}
		if backwards {
			slices.Reverse(want)
		}
		for from := range want {
			checkChain(t, g, from, 0, false, want[from:]...)
			checkChain(t, g, from, 0, true, want[from:]...)
		}
	}
}

func TestChainOfTheLastTerminal(t *testing.T) {
	g := api.Grammar{Terms: probe.Names("t", mostNonterms), Nonterms: []string{"S"}}
	for k := range api.MaxSource {
		g.Rules = append(g.Rules, probe.Rule(0, (k/2+1)%mostNonterms, -1, k/2%mostNonterms))
	}
	checkChain(t, g, 0, 58, false, 114)
	checkChain(t, g, 0, 0, false, 116)
	checkChain(t, g, 0, 58, true, 116)
	checkChain(t, g, 0, 0, true, 0)
	checkNoChain(t, g, 0, 59, false, api.ErrArg)
}

// There are 2^28 chains of one length: they aren't gone through one by one.
func TestChainOfManyWays(t *testing.T) {
	g := api.Grammar{Terms: []string{"a"}, Nonterms: probe.Names("N", 58)}
	for n := 0; n < 56; n++ {
		next := n - n%2 + 2
		g.Rules = append(g.Rules, probe.Rule(n, -2-next, -1-next), probe.Rule(n, -1-next, -2-next))
	}
	var want []int
	for n := range 28 {
		// The first rule on the left leads to the second one of the next two, on the right to the first one.
		want = append(want, 4*n+2*min(n, 1))
	}
	checkNoChain(t, g, 0, 0, false, api.ErrNone)
	checkNoChain(t, g, 0, 0, true, api.ErrNone)
	g.Rules = append(g.Rules, probe.Rule(56, 0), probe.Rule(57, 0))
	checkChain(t, g, 0, 0, false, append(want, 113)...)
	for n := range want {
		want[n] = 4 * n
	}
	checkChain(t, g, 0, 0, true, append(want, 112)...)
}

// checkByTrying holds all chains of a grammar on the left against those that are found by trying all lists of rules.
func checkByTrying(t *testing.T, g api.Grammar) {
	t.Helper()
	about := probe.Turned(g)
	for n := range g.Nonterms {
	terms:
		for term := range g.Terms {
			for size := 1; size <= len(g.Nonterms); size++ {
				if list := chains(g, n, term, size); len(list) > 0 {
					checkChain(t, g, n, term, false, list[0]...)
					checkChain(t, about, n, term, true, list[0]...)
					continue terms
				}
			}
			checkNoChain(t, g, n, term, false, api.ErrNone)
			checkNoChain(t, about, n, term, true, api.ErrNone)
		}
	}
}

func TestChainsOfSmallGrammars(t *testing.T) {
	for _, g := range smallGrammars() {
		for _, form := range orders(g) {
			checkByTrying(t, form)
		}
	}
}

func TestChainsOfManyGrammars(t *testing.T) {
	for _, g := range manyGrammars() {
		if len(g.Nonterms) < 6 {
			checkByTrying(t, g)
		}
	}
}

// P8.3

func TestTurnedAbout(t *testing.T) {
	unlike := 0
	for _, g := range slices.Concat(manyGrammars(), smallGrammars(), wideGrammars()) {
		e, other := mustOf(t, g), mustOf(t, probe.Turned(g))
		if !same(e, ends.Ends{Left: other.Right, Right: other.Left}) {
			t.Errorf("Of %v: %v, turned about: %v", g.Rules, e, other)
		}
		if !slices.Equal(e.Left, e.Right) {
			unlike++
		}
	}
	if unlike < 3000 {
		t.Errorf("only %d have other sets on the right than on the left", unlike)
	}
}

func TestRulesInAnotherOrder(t *testing.T) {
	var n probe.Numbers
	for _, g := range append(manyGrammars(), wideGrammars()...) {
		other := probe.Shuffled(g, &n)
		if e, of := mustOf(t, g), mustOf(t, other); !same(e, of) {
			t.Errorf("Of %v: %v, of %v: %v", g.Rules, e, other.Rules, of)
		}
	}
}

// P8.4

func TestWithARuleMore(t *testing.T) {
	more := 0
	for _, g := range append(manyGrammars(), wideGrammars()...) {
		for n, less := range probe.Lessened(g) {
			e, before := mustOf(t, g), mustOf(t, less)
			for m := range g.Nonterms {
				if !sets.Within(before.Left[m], e.Left[m]) || !sets.Within(before.Right[m], e.Right[m]) {
					t.Errorf("Of %v: %v, without rule %d: %v", g.Rules, e, n, before)
				}
			}
			if !same(e, before) {
				more++
			}
		}
	}
	if more < 5000 {
		t.Errorf("only %d rules add anything", more)
	}
}

// checkByLengths holds all chains of a grammar, and whether there are any, against how many rules the shortest ones have; and counts how many have so many.
func checkByLengths(t *testing.T, g api.Grammar, seen []int) {
	t.Helper()
	about := probe.Turned(g)
	e, other := mustOf(t, g), mustOf(t, about)
	for term := range g.Terms {
		least := lengths(g, term)
		for n, size := range least {
			seen[size]++
			if in := sets.Has(e.Left[n], term); in != (size > 0) || in != sets.Has(other.Right[n], term) {
				t.Errorf("%d in Left(%d) of %v: %v", term, n, g.Rules, in)
			}
			if size == 0 {
				checkNoChain(t, g, n, term, false, api.ErrNone)
				checkNoChain(t, about, n, term, true, api.ErrNone)
				continue
			}
			want := chainOf(g, n, term, least)
			if !isChain(g, n, term, want) || len(want) > len(g.Nonterms) || len(want) != size {
				t.Errorf("%v is no chain of %d and %d of %v", want, n, term, g.Rules)
			}
			checkChain(t, g, n, term, false, want...)
			checkChain(t, about, n, term, true, want...)
		}
	}
}

func TestChainsAreTheShortest(t *testing.T) {
	seen := make([]int, api.MaxSymbols)
	for _, g := range slices.Concat(manyGrammars(), smallGrammars(), wideGrammars()) {
		checkByLengths(t, g, seen)
	}
	for size, n := range seen[:12] {
		if n < 100 {
			t.Errorf("only %d chains of %d rules: %v", n, size, seen)
		}
	}
}

// P8.5

func TestNothingIsChanged(t *testing.T) {
	for _, g := range slices.Concat(manyGrammars()[:1500], wideGrammars()[:20], []api.Grammar{example(), {}, {Nonterms: []string{"S"}, Axiom: 1}}) {
		g = probe.Roomy(g)
		before := gram.Copy(probe.Whole(g))
		ends.Of(g)
		for n := range len(g.Nonterms) + 1 {
			for term := range len(g.Terms) + 1 {
				ends.Chain(g, n, term, false)
				ends.Chain(g, n, term, true)
			}
		}
		if !gram.Same(before, probe.Whole(g)) {
			t.Fatalf("%v is changed to %v", before, probe.Whole(g))
		}
	}
}

// TestNothingIsKept: a later change of what was handed in is seen by the next call, and not in what was answered.
func TestNothingIsKept(t *testing.T) {
	g := probe.Read("S : A b | c; A : a")
	e := mustOf(t, g)
	chain, _ := ends.Chain(g, 0, 2, false)
	g.Rules[0].Right[1], g.Rules[2].Right[0] = 1, 1
	if named(g, e.Left) != "b c a; a" || named(g, e.Right) != "b c; a" || !slices.Equal(chain, []int{0, 2}) {
		t.Errorf("the answers became %v, %v", e, chain)
	}
	checkOf(t, g, "c; c", "c; c")
	checkNoChain(t, g, 0, 2, false, api.ErrNone)
	g.Rules[1].Right[0], g.Rules[1].Left = 0, 1
	checkChain(t, g, 0, 0, false, 0, 1)
}

// What was answered may be changed, with the room behind it, and no later answer shows it.
func TestAnswersMayBeChanged(t *testing.T) {
	g := example()
	for range 3 {
		e := mustOf(t, g)
		if named(g, e.Left) != "+ * ( i; * ( i; ( i" || named(g, e.Right) != "+ * ) i; * ) i; ) i" {
			t.Errorf("Of: %v", e)
		}
		checkChain(t, g, 0, 4, false, 1, 3, 5)
		chain, _ := ends.Chain(g, 0, 4, false)
		clear(e.Left[:cap(e.Left)])
		clear(e.Right[:cap(e.Right)])
		clear(chain[:cap(chain)])
	}
}

func TestAnswersAreNewMemory(t *testing.T) {
	for _, g := range slices.Concat(manyGrammars()[:500], wideGrammars()[:5]) {
		g = probe.Roomy(g)
		lists := [][]int{}
		for _, r := range g.Rules {
			lists = append(lists, r.Right)
		}
		for n := range g.Nonterms {
			for term := range g.Terms {
				for _, right := range []bool{false, true, false, true} {
					chain, _ := ends.Chain(g, n, term, right)
					lists = append(lists, chain)
				}
			}
		}
		one, other := mustOf(t, g), mustOf(t, g)
		if !probe.Apart(lists...) || !probe.Apart(one.Left, one.Right, other.Left, other.Right) {
			t.Fatalf("lists of %v share memory", g)
		}
	}
}

// TestExamples is the table of chapter 8.
func TestExamples(t *testing.T) {
	g := example()
	checkOf(t, g, "+ * ( i; * ( i; ( i", "+ * ) i; * ) i; ) i")
	checkChain(t, g, 0, 0, false, 0)
	checkChain(t, g, 0, 4, false, 1, 3, 5)
	checkChain(t, g, 2, 2, false, 4)
	checkChain(t, g, 0, 3, true, 0, 2, 4)
	checkNoChain(t, g, 0, 2, true, api.ErrNone)
	checkNoChain(t, g, 0, 5, false, api.ErrArg)
}
