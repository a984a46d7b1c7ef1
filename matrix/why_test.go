package matrix_test

import (
	"slices"
	"testing"

	"dovetail/api"
	"dovetail/gram"
	"dovetail/matrix"
	"dovetail/probe"
)

// term is the number of a terminal's name, in which $ is the end.
func term(t *testing.T, g api.Grammar, name string) int {
	t.Helper()
	if name == "$" {
		return len(g.Terms)
	}
	n, ok := gram.Term(g, name)
	if !ok {
		t.Fatalf("no terminal %s in %v", name, g)
	}
	return n
}

func sameReason(a, b matrix.Reason) bool {
	return a.Rule == b.Rule && a.At == b.At && slices.Equal(a.Chain, b.Chain)
}

func checkWhy(t *testing.T, g api.Grammar, a, b, relation int, want matrix.Reason) {
	t.Helper()
	if why, err := matrix.Why(g, a, b, relation); err != nil || !sameReason(why, want) {
		t.Errorf("Why of %d, %d, %d of %v: %v, %v, want %v", a, b, relation, g, why, err, want)
	}
}

func checkNoWhy(t *testing.T, g api.Grammar, a, b, relation int, want error) {
	t.Helper()
	if why, err := matrix.Why(g, a, b, relation); probe.Which(err) != want || !sameReason(why, matrix.Reason{}) {
		t.Errorf("Why of %d, %d, %d of %v: %v, %v, want %v", a, b, relation, g, why, err, want)
	}
}

// P9.5

// whyCase asks why a relation of two terminals, told by their names, holds in the grammar of a text.
type whyCase struct {
	text, a, b string
	want       matrix.Reason
}

func checkWhys(t *testing.T, relation int, cases ...whyCase) {
	t.Helper()
	for _, c := range cases {
		g := probe.Read(c.text)
		checkWhy(t, g, term(t, g, c.a), term(t, g, c.b), relation, c.want)
	}
}

func reason(rule, at int, chain ...int) matrix.Reason {
	return matrix.Reason{Rule: rule, At: at, Chain: chain}
}

func TestWhyEqual(t *testing.T) {
	checkWhys(t, api.Equal,
		whyCase{"S : a b", "a", "b", reason(0, 0)},
		whyCase{"S : a S b", "a", "b", reason(0, 0)},
		whyCase{"S : a S a S a", "a", "a", reason(0, 0)},
		whyCase{"S : b a | a a b | a b", "a", "b", reason(1, 1)},
		whyCase{"S : a | S a S S b | S S a S b | a b", "a", "b", reason(2, 2)},
		whyCase{"S : a S b a b", "a", "b", reason(0, 0)},
		whyCase{"S : a S S b a b", "a", "b", reason(0, 4)},
		whyCase{"S : a S S b S a S b", "a", "b", reason(0, 5)},
		// Neither a chain nor the axiom matters.
		whyCase{"S : A; A : c a b", "a", "b", reason(1, 1)},
		whyCase{"S : A; A : A; B : a A b", "a", "b", reason(2, 0)},
	)
}

func TestWhyYields(t *testing.T) {
	checkWhys(t, api.Yields,
		whyCase{"S : a S | b", "a", "b", reason(0, 0, 1)},
		whyCase{"S : b | a B | a S a B; B : b", "a", "b", reason(1, 0, 3)},
		whyCase{"S : a S a B | b; B : b", "a", "b", reason(0, 0, 1)},
		whyCase{"S : a B a S | b; B : c", "a", "b", reason(0, 2, 1)},
		whyCase{"S : a B S | b; B : c", "a", "c", reason(0, 0, 2)},
		// The least rule, though its chain is longer than another rule's.
		whyCase{"S : a A | a C; A : B; B : C; C : b", "a", "b", reason(0, 0, 2, 3, 4)},
		whyCase{"S : c a A a C; A : B; B : C; C : b", "a", "b", reason(0, 1, 1, 2, 3)},
		// The chain is the left one: b ends B, too, by another rule.
		whyCase{"S : a B; B : c b | b c", "a", "b", reason(0, 0, 2)},
		// A terminal behind the nonterminal is another relation's.
		whyCase{"S : a B b | a S; B : c", "a", "a", reason(1, 0, 0)},
	)
}

func TestWhyTakes(t *testing.T) {
	checkWhys(t, api.Takes,
		whyCase{"S : S a | b", "b", "a", reason(0, 1, 1)},
		whyCase{"S : S a S a | b", "b", "a", reason(0, 1, 1)},
		whyCase{"S : c a A a | b; A : b", "b", "a", reason(0, 3, 2)},
		whyCase{"S : A S a | b; A : c", "b", "a", reason(0, 2, 1)},
		whyCase{"S : b | a b | B a | S a S; B : b", "b", "a", reason(2, 1, 4)},
		whyCase{"S : A a | C a; A : B; B : C; C : b", "b", "a", reason(0, 1, 2, 3, 4)},
		// The chain is the right one: b begins B, too, by another rule.
		whyCase{"S : B a; B : b c | c b", "b", "a", reason(0, 1, 2)},
		whyCase{"S : b B a | S a; B : c", "a", "a", reason(1, 1, 0)},
	)
}

func TestWhyOfTheEnd(t *testing.T) {
	checkWhys(t, api.Yields,
		whyCase{"S : a", "$", "a", reason(-1, 0, 0)},
		whyCase{"S : A | a; A : a b", "$", "a", reason(-1, 0, 1)},
		whyCase{"S : A | c; A : B a; B : b", "$", "b", reason(-1, 0, 0, 2, 3)},
	)
	checkWhys(t, api.Takes,
		whyCase{"S : a", "a", "$", reason(-1, 0, 0)},
		whyCase{"S : A | a; A : a b", "b", "$", reason(-1, 0, 0, 2)},
		whyCase{"S : A | c; A : a B; B : b", "b", "$", reason(-1, 0, 0, 2, 3)},
	)
	g := probe.Read("S : a A; A : B c; B : b")
	g.Axiom = 1
	checkWhy(t, g, 3, 2, api.Yields, reason(-1, 0, 1, 2))
	checkWhy(t, g, 3, 1, api.Yields, reason(-1, 0, 1))
	checkWhy(t, g, 1, 3, api.Takes, reason(-1, 0, 1))
	checkNoWhy(t, g, 3, 0, api.Yields, api.ErrNone)
	checkNoWhy(t, g, 2, 3, api.Takes, api.ErrNone)
}

func TestWhyOfNothing(t *testing.T) {
	g := nest()
	for _, relation := range []int{api.Yields, api.Equal, api.Takes} {
		checkNoWhy(t, g, 1, 0, relation, api.ErrNone)
		checkNoWhy(t, g, 2, 2, relation, api.ErrNone)
		checkNoWhy(t, probe.Read("S : S"), 0, 0, relation, api.ErrNone)
	}
	for k := range 3 {
		checkNoWhy(t, g, 2, k, api.Equal, api.ErrNone)
		checkNoWhy(t, g, 2, k, api.Takes, api.ErrNone)
		checkNoWhy(t, g, k, 2, api.Equal, api.ErrNone)
		checkNoWhy(t, g, k, 2, api.Yields, api.ErrNone)
	}
	checkNoWhy(t, g, 0, 0, api.Equal, api.ErrNone)
	checkNoWhy(t, g, 0, 0, api.Takes, api.ErrNone)
	checkNoWhy(t, g, 0, 1, api.Yields, api.ErrNone)
}

func TestWhyOfWrongNumbers(t *testing.T) {
	for _, g := range []api.Grammar{nest(), sums(), probe.Read("S : S"), {Terms: probe.Names("t", most), Nonterms: []string{"S"}}} {
		terms := len(g.Terms) + 1
		for _, relation := range append(noRelations(), 0, 1, 2, 3) {
			for _, no := range noTerms(terms) {
				for k := range min(terms, 4) {
					checkNoWhy(t, g, k, no, relation, api.ErrArg)
					checkNoWhy(t, g, no, k, relation, api.ErrArg)
				}
				checkNoWhy(t, g, terms-1, no, relation, api.ErrArg)
				checkNoWhy(t, g, no, terms-1, relation, api.ErrArg)
				checkNoWhy(t, g, no, no, relation, api.ErrArg)
			}
		}
		for _, no := range append(noRelations(), api.None) {
			for a := range min(terms, 4) {
				for b := range min(terms, 4) {
					checkNoWhy(t, g, a, b, no, api.ErrArg)
				}
			}
		}
	}
}

// A chain may have as many rules as there are nonterminals.
func TestWhyOfTheMost(t *testing.T) {
	g := api.Grammar{Terms: []string{"a"}, Nonterms: probe.Names("N", most)}
	for k := range most - 1 {
		g.Rules = append(g.Rules, probe.Rule(k, -2-k))
	}
	g.Rules = append(g.Rules, probe.Rule(most-1, append(append([]int{0}, slices.Repeat([]int{-2}, api.MaxRight-3)...), -1, 0)...))
	var chain []int
	for k := range g.Rules {
		chain = append(chain, k)
	}
	checkWhy(t, g, 1, 0, api.Yields, reason(-1, 0, chain...))
	checkWhy(t, g, 0, 1, api.Takes, reason(-1, 0, chain...))
	checkWhy(t, g, 0, 0, api.Yields, reason(most-1, 0, chain[1:]...))
	checkWhy(t, g, 0, 0, api.Takes, reason(most-1, api.MaxRight-1, chain...))
	checkNoWhy(t, g, 0, 0, api.Equal, api.ErrNone)
	g.Rules = append(g.Rules, slices.Repeat([]api.Rule{probe.Rule(3)}, api.MaxSource-most-1)...)
	g.Rules = append(g.Rules, probe.Rule(3, append(slices.Repeat([]int{-1}, api.MaxRight-2), 0, 0)...))
	checkWhy(t, g, 0, 0, api.Equal, reason(api.MaxSource-1, api.MaxRight-2))
}

// P9.5, P9.7

// checkReasons holds all reasons of some terminals of a grammar, and whether relations hold, against the chapter's words.
func checkReasons(t *testing.T, g api.Grammar, terms ...int) {
	t.Helper()
	m := mustOf(t, g)
	for _, a := range terms {
		for _, b := range terms {
			for relation := api.Yields; relation <= api.Takes; relation++ {
				want, ok := reasonOf(g, a, b, relation)
				if m.Holds(a, b, relation) != ok {
					t.Errorf("Holds of %d, %d, %d of %v: %v", a, b, relation, g, !ok)
				}
				if !ok {
					checkNoWhy(t, g, a, b, relation, api.ErrNone)
					continue
				}
				checkWhy(t, g, a, b, relation, want)
			}
		}
	}
}

func TestReasonsOfManyGrammars(t *testing.T) {
	for _, g := range slices.Concat(manyGrammars(), smallGrammars()) {
		var terms []int
		for k := range len(g.Terms) + 1 {
			terms = append(terms, k)
		}
		checkReasons(t, g, terms...)
	}
}

func TestReasonsOfWideGrammars(t *testing.T) {
	var n probe.Numbers
	for _, g := range wideGrammars() {
		terms := append(n.Order(len(g.Terms))[:9], len(g.Terms))
		checkReasons(t, g, terms...)
	}
}

// P9.8, as far as it is of reasons

func TestReasonsAreNewMemory(t *testing.T) {
	for _, g := range append(manyGrammars()[:300], wideGrammars()[:2]...) {
		g = probe.Roomy(g)
		var lists [][]int
		for _, r := range g.Rules {
			lists = append(lists, r.Right)
		}
		for a := max(0, len(g.Terms)-6); a <= len(g.Terms); a++ {
			for b := max(0, len(g.Terms)-6); b <= len(g.Terms); b++ {
				for range 2 {
					for relation := api.Yields; relation <= api.Takes; relation++ {
						why, _ := matrix.Why(g, a, b, relation)
						lists = append(lists, why.Chain)
					}
				}
			}
		}
		if !probe.Apart(lists...) {
			t.Fatalf("lists of %v share memory", g)
		}
	}
}

// What was answered may be changed, with the room behind it, and no later answer shows it.
func TestReasonsMayBeChanged(t *testing.T) {
	g := probe.Read("E : E + T | T; T : T * F | F; F : ( E ) | i")
	for range 3 {
		checkWhy(t, g, 2, 4, api.Yields, reason(4, 0, 1, 3, 5))
		checkWhy(t, g, 4, 3, api.Takes, reason(4, 2, 0, 2, 5))
		for _, relation := range []int{api.Yields, api.Takes} {
			for k := range 5 {
				one, _ := matrix.Why(g, 2, k, relation)
				other, _ := matrix.Why(g, k, 3, relation)
				clear(one.Chain[:cap(one.Chain)])
				clear(other.Chain[:cap(other.Chain)])
			}
		}
	}
}

// TestExamples is the table of chapter 9.
func TestExamples(t *testing.T) {
	g, h := sums(), nest()
	m := mustOf(t, g)
	if m.At(0, 0) != api.Yields || !m.Holds(0, 0, api.Takes) || !m.Holds(0, 0, api.Yields) {
		t.Error("+ and +")
	}
	checkClashes(t, g, api.Pair{A: 0, B: 0, First: api.Yields, Second: api.Takes})
	checkWhy(t, g, 0, 0, api.Yields, reason(0, 1, 0))
	checkWhy(t, g, 0, 0, api.Takes, reason(0, 1, 0))
	checkWhy(t, g, 2, 1, api.Yields, reason(-1, 0, 1))
	of := mustOf(t, h)
	at := []int{of.At(0, 0), of.At(0, 1), of.At(1, 1), of.At(2, 0), of.At(1, 2), of.At(1, 0)}
	if !slices.Equal(at, []int{api.Yields, api.Equal, api.Takes, api.Yields, api.Takes, api.None}) {
		t.Errorf("At: %v", at)
	}
	checkPack(t, "S : a S b | a b", 0x09, 0x1f, 0x00)
	checkNoWhy(t, h, 0, 0, api.Equal, api.ErrNone)
	checkNoWhy(t, h, 0, 9, api.Equal, api.ErrArg)
	checkNoWhy(t, h, 0, 0, 4, api.ErrArg)
}
