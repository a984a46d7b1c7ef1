package useful_test

import (
	"slices"
	"strings"
	"testing"
	"unsafe"

	"dovetail/api"
	"dovetail/gram"
	"dovetail/probe"
	"dovetail/sets"
	"dovetail/useful"
)

// example is the grammar of the chapter's examples.
func example() api.Grammar { return probe.Read("S : a A | B | b; A : a; B : B b; C : a") }

// named is a set of nonterminals as their names.
func named(g api.Grammar, s api.Set) string {
	return strings.Trim(sets.Text(s, func(n int) string { return g.Nonterms[n] }), "{}")
}

func checkSet(t *testing.T, what string, g api.Grammar, call func(api.Grammar) (api.Set, error), want string) {
	t.Helper()
	if s, err := call(g); err != nil || named(g, s) != want {
		t.Errorf("%s of %v: {%s}, %v, want {%s}", what, g.Rules, named(g, s), err, want)
	}
}

func checkSets(t *testing.T, g api.Grammar, productive, reached, usefulOnes string) {
	t.Helper()
	checkSet(t, "Productive", g, useful.Productive, productive)
	checkSet(t, "Reached", g, useful.Reached, reached)
	checkSet(t, "Useful", g, useful.Useful, usefulOnes)
}

// checkTrim wants of Trim a grammar that is the same.
func checkTrim(t *testing.T, g, want api.Grammar) {
	t.Helper()
	if got, err := useful.Trim(g); err != nil || !gram.Same(got, want) {
		t.Errorf("Trim of %v: %v, %v, want %v", g, got, err, want)
	}
}

func checkNoTrim(t *testing.T, g api.Grammar) {
	t.Helper()
	if got, err := useful.Trim(g); probe.Which(err) != api.ErrNone || !gram.Same(got, api.Grammar{}) {
		t.Errorf("Trim of %v: %v, %v, want ErrNone", g, got, err)
	}
}

// P7.1

func TestSets(t *testing.T) {
	cases := []struct{ text, productive, reached, useful string }{
		{"S : a", "S", "S", "S"},
		{"S :", "S", "S", "S"},
		{"S : S", "", "S", ""},
		{"S : S | a S b", "", "S", ""},
		{"S : S S | S | a", "S", "S", "S"},
		{"S : A; A : B; B : C; C : c", "S A B C", "S A B C", "S A B C"},
		{"S : c; A : S; B : A; C : B", "S A B C", "S", "S"},
		{"S : A; A : S", "", "S A", ""},
		{"S : A; A : S | a", "S A", "S A", "S A"},
		{"S : a; A : B; B : A", "S", "S", "S"},
		{"S : a; A : b; B : c A", "S A B", "S", "S"},
		{"S : A S A |; A : a A | B; B : A", "S", "S A B", "S"},
		{"S : A A A B | b; A :; B : B A", "S A", "S A B", "S"},
		{"S : x A B C; A : a; B : b; C : C", "A B", "S A B C", ""},
		{"S : C A; A : C; B : A; C : a | B", "S A B C", "S A B C", "S A B C"},
	}
	for _, c := range cases {
		checkSets(t, probe.Read(c.text), c.productive, c.reached, c.useful)
	}
}

// A nonterminal that stands only beside one that isn't productive is productive and reached, and not useful; by another rule, it is.
func TestUsefulByRulesOfProductiveOnes(t *testing.T) {
	checkSets(t, probe.Read("S : A B | a; A : a; B : B"), "S A", "S A B", "S")
	checkSets(t, probe.Read("S : A B | a; A : C; B : B; C : c"), "S A C", "S A B C", "S")
	checkSets(t, probe.Read("S : A B | a C; A : a; B : B; C : b A"), "S A C", "S A B C", "S A C")
	checkSets(t, probe.Read("S : B | a; A : a; B : B A | C B; C : c"), "S A C", "S A B C", "S")
}

func TestSetsFromTheAxiom(t *testing.T) {
	g := example()
	g.Axiom = 1
	checkSets(t, g, "S A C", "A", "A")
	g.Axiom = 2
	checkSets(t, g, "S A C", "B", "")
	g.Axiom = 3
	checkSets(t, g, "S A C", "C", "C")
}

func TestSetsOfNonterminalsWithoutRules(t *testing.T) {
	g := api.Grammar{Nonterms: []string{"S", "A"}}
	checkSets(t, g, "", "S", "")
	g.Rules = []api.Rule{probe.Rule(0, -2), probe.Rule(0)}
	checkSets(t, g, "S", "S A", "S")
	g.Axiom = 1
	checkSets(t, g, "S", "A", "")
}

// chain is a grammar of n nonterminals, each but the last a renaming of the next one, the rules in their order or from the last on.
func chain(n int, backwards bool) api.Grammar {
	g := api.Grammar{Nonterms: probe.Names("N", n)}
	for k := range n - 1 {
		g.Rules = append(g.Rules, probe.Rule(k, -2-k))
	}
	g.Rules = append(g.Rules, probe.Rule(n-1))
	if backwards {
		slices.Reverse(g.Rules)
	}
	return g
}

func TestSetsOfLongChains(t *testing.T) {
	for _, backwards := range []bool{false, true} {
		g := chain(api.MaxSymbols, backwards)
		all := strings.Join(g.Nonterms, " ")
		checkSets(t, g, all, all, all)
		g.Axiom = api.MaxSymbols - 1
		checkSets(t, g, all, "N59", "N59")
		g.Rules = slices.DeleteFunc(g.Rules, func(r api.Rule) bool { return len(r.Right) == 0 })
		checkSets(t, g, "", "N59", "")
		g.Axiom = 0
		checkSets(t, g, "", all, "")
	}
}

func TestSetsOfManyGrammars(t *testing.T) {
	part, other := 0, 0
	for _, g := range slices.Concat(manyGrammars(), smallGrammars(), tallGrammars()) {
		able, reached, used := rooted(g.Rules), ledTo(g.Axiom, g.Rules), usefulOf(g)
		checkSets(t, g, named(g, able), named(g, reached), named(g, used))
		if used != 0 && used != sets.Full(len(g.Nonterms)) {
			part++
		}
		if used != able&reached {
			other++
		}
	}
	if part < 2000 || other < 500 {
		t.Errorf("of %d some nonterminals are useful; of %d some that are productive and reached are not", part, other)
	}
}

// TestWrongGrammars: each call tells gram's error ahead of its own, and nothing else.
func TestWrongGrammars(t *testing.T) {
	for _, w := range append(probe.Wrongs(example()), probe.Wrongs(probe.Read("S : S"))...) {
		want := gram.Check(w.Grammar)
		check := func(call string, err error, zero bool) {
			if probe.Which(err) != probe.Which(want) || probe.RuleOf(err) != probe.RuleOf(want) || want == nil {
				t.Errorf("%s, %s: %v, want %v", call, w.What, err, want)
			}
			if !zero {
				t.Errorf("%s, %s: an answer beside the error", call, w.What)
			}
		}
		s, err := useful.Productive(w.Grammar)
		check("Productive", err, s == 0)
		s, err = useful.Reached(w.Grammar)
		check("Reached", err, s == 0)
		s, err = useful.Useful(w.Grammar)
		check("Useful", err, s == 0)
		g, err := useful.Trim(w.Grammar)
		check("Trim", err, gram.Same(g, api.Grammar{}))
		list, err := useful.Shortest(w.Grammar)
		check("Shortest", err, len(list) == 0)
		for n := -1; n < 5; n++ {
			list, err = useful.Word(w.Grammar, n)
			check("Word", err, len(list) == 0)
		}
	}
}

// P7.2

func TestTrim(t *testing.T) {
	cases := []struct{ text, want string }{
		{"S : a", "S : a"},
		{"S :", "S :"},
		{"S : S | | a", "S : S | | a"},
		{"S : A a; A : B; B : b", "S : A a; A : B; B : b"},
		{"S : a A B; A : C; B : b; C : a; D : S", "S : a A B; A : C; B : b; C : a"},
		{"S : A x | b C; A : A; B : y; C : c; D : z D", "S : b C; C : c"},
		{"S : C | B; A : a S; B : b B; C : c | C c", "S : C; C : c | C c"},
	}
	for _, c := range cases {
		checkTrim(t, probe.Read(c.text), probe.Read(c.want))
	}
}

// Names keep their order, which isn't that of the rules, and the axiom is the same nonterminal, with another number.
func TestTrimKeepsOrders(t *testing.T) {
	g := api.Grammar{Terms: []string{"a", "b", "c", "d", "e"}, Nonterms: []string{"P", "Q", "R", "S", "T"}, Axiom: 3}
	g.Rules = []api.Rule{
		probe.Rule(4, 4), probe.Rule(3, -5, 1, -2), probe.Rule(0, 0), probe.Rule(2, -3), probe.Rule(1, 3, 3), probe.Rule(3, -3, 2), probe.Rule(4, 4), probe.Rule(1),
	}
	want := api.Grammar{Terms: []string{"b", "d", "e"}, Nonterms: []string{"Q", "S", "T"}, Axiom: 1}
	want.Rules = []api.Rule{probe.Rule(2, 2), probe.Rule(1, -3, 0, -1), probe.Rule(0, 1, 1), probe.Rule(2, 2), probe.Rule(0)}
	checkTrim(t, g, want)
}

// A name may be a terminal's and a nonterminal's: each has a number of its own.
func TestTrimOfOneNameOnBothSides(t *testing.T) {
	g := api.Grammar{Terms: []string{"x", "S", "A"}, Nonterms: []string{"A", "x", "S"}, Axiom: 2}
	g.Rules = []api.Rule{probe.Rule(2, 2, -2, 1), probe.Rule(0, 0), probe.Rule(1, 2)}
	want := api.Grammar{Terms: []string{"S", "A"}, Nonterms: []string{"x", "S"}, Axiom: 1}
	want.Rules = []api.Rule{probe.Rule(1, 1, -1, 0), probe.Rule(0, 1)}
	checkTrim(t, g, want)
}

func TestTrimOfNothing(t *testing.T) {
	checkNoTrim(t, probe.Read("S : S"))
	checkNoTrim(t, probe.Read("S : A B; A : a; B : B b"))
	checkNoTrim(t, api.Grammar{Terms: []string{"a"}, Nonterms: []string{"S", "A"}, Rules: []api.Rule{probe.Rule(1, 0)}})
	g := example()
	g.Axiom = 2
	checkNoTrim(t, g)
}

func TestTrimAtTheBounds(t *testing.T) {
	g := chain(api.MaxSymbols, true)
	checkTrim(t, g, g)
	g.Axiom = api.MaxSymbols - 1
	checkTrim(t, g, api.Grammar{Nonterms: []string{"N59"}, Rules: []api.Rule{{}}})
	wide := api.Grammar{Terms: probe.Names("t", api.MaxSymbols-1), Nonterms: []string{"S"}}
	for k := range api.MaxSource {
		r := probe.Rule(0)
		for at := range api.MaxRight {
			r.Right = append(r.Right, (k*api.MaxRight+at)%(api.MaxSymbols-1))
		}
		wide.Rules = append(wide.Rules, r)
	}
	checkTrim(t, wide, wide)
	for n := range wide.Rules {
		wide.Rules[n].Right = slices.Repeat([]int{58 - n%2}, api.MaxRight)
	}
	narrow := gram.Copy(wide)
	narrow.Terms = []string{"t57", "t58"}
	for n := range narrow.Rules {
		narrow.Rules[n].Right = slices.Repeat([]int{1 - n%2}, api.MaxRight)
	}
	checkTrim(t, wide, narrow)
}

func TestTrimOfManyGrammars(t *testing.T) {
	taken, less := 0, 0
	for _, g := range slices.Concat(manyGrammars(), smallGrammars(), tallGrammars()) {
		if rooted(g.Rules)>>g.Axiom&1 == 0 {
			checkNoTrim(t, g)
			continue
		}
		want := trimmed(g)
		checkTrim(t, g, want)
		taken++
		if len(want.Nonterms) < len(g.Nonterms) && len(want.Nonterms) > 1 {
			less++
		}
	}
	if taken < 3000 || less < 300 {
		t.Errorf("%d are trimmed, %d of them to some nonterminals", taken, less)
	}
}

// P7.5

func TestTrimOfTrimmed(t *testing.T) {
	for _, g := range slices.Concat(manyGrammars(), smallGrammars(), tallGrammars()) {
		once, err := useful.Trim(g)
		if err != nil {
			continue
		}
		checkTrim(t, once, once)
		all := named(once, sets.Full(len(once.Nonterms)))
		checkSets(t, once, all, all, all)
	}
}

func TestTrimmedDerivesTheSame(t *testing.T) {
	rows := 0
	for n, g := range append(manyGrammars(), smallGrammars()...) {
		once, err := useful.Trim(g)
		if err != nil || n%2 == 1 {
			continue
		}
		was, is := probe.Derived(g, 4)[g.Axiom], probe.Derived(once, 4)[once.Axiom]
		if len(was) != len(is) {
			t.Errorf("%v derives %d rows, %v derives %d", g, len(was), once, len(is))
		}
		for row := range is {
			if !was.Has(row) {
				t.Errorf("%v derives %q, %v doesn't", once, row, g)
			}
		}
		rows += len(is)
	}
	if rows < 10000 {
		t.Errorf("only %d rows", rows)
	}
}

// P7.7

func TestNothingIsChanged(t *testing.T) {
	for _, g := range slices.Concat(manyGrammars()[:1500], tallGrammars()[:20], []api.Grammar{example(), {}, {Nonterms: []string{"S"}, Axiom: 1}}) {
		g = probe.Roomy(g)
		before := gram.Copy(probe.Whole(g))
		useful.Productive(g)
		useful.Reached(g)
		useful.Useful(g)
		useful.Trim(g)
		useful.Shortest(g)
		useful.Word(g, g.Axiom)
		useful.Word(g, -1)
		if !gram.Same(before, probe.Whole(g)) {
			t.Fatalf("%v is changed to %v", before, probe.Whole(g))
		}
	}
}

// TestNothingIsKept: a later change of what was handed in is seen by the next call, and not in what was answered.
func TestNothingIsKept(t *testing.T) {
	g := probe.Read("S : a A | b; A : c; B : a")
	trimmed, _ := useful.Trim(g)
	lengths, _ := useful.Shortest(g)
	word, _ := useful.Word(g, 1)
	g.Terms[2], g.Nonterms[1] = "d", "C"
	g.Rules[0].Right[0], g.Rules[1].Right[0], g.Rules[2].Right[0] = 2, -2, 1
	if !gram.Same(trimmed, probe.Read("S : a A | b; A : c")) || !slices.Equal(lengths, []int{1, 1, 1}) || !slices.Equal(word, []int{2}) {
		t.Errorf("the answers became %v, %v, %v", trimmed, lengths, word)
	}
	want := gram.Copy(g)
	want.Nonterms = want.Nonterms[:2]
	want.Rules = []api.Rule{probe.Rule(0, 1, -2), probe.Rule(0, -2), probe.Rule(1, 0)}
	want.Terms = []string{"b", "d"}
	checkTrim(t, g, want)
	checkWord(t, g, 1, "b")
	checkShortest(t, g, 1, 1, 1)
}

func TestAnswersAreNewMemory(t *testing.T) {
	for _, g := range append(manyGrammars()[:1000], smallGrammars()[:1000]...) {
		g = probe.Roomy(g)
		first, _ := useful.Trim(g)
		second, _ := useful.Trim(g)
		if !probe.GrammarsApart(g, first, second) {
			t.Fatalf("lists of trimmed grammars of %v share memory", g)
		}
		sides := [][]int{}
		for _, r := range g.Rules {
			sides = append(sides, r.Right)
		}
		for n := range g.Nonterms {
			lengths, _ := useful.Shortest(g)
			one, _ := useful.Word(g, n)
			other, _ := useful.Word(g, n)
			sides = append(sides, lengths, one, other)
		}
		if !probe.Apart(sides...) {
			t.Fatalf("lists of %v share memory", g)
		}
	}
}

// Right sides of one list in the grammar that is handed in are lists of their own in the trimmed one.
func TestTrimOfSharedLists(t *testing.T) {
	side := []int{0, 1, 0}
	names := []string{"a", "b", "S"}
	g := api.Grammar{Terms: names[:2], Nonterms: names[2:], Rules: []api.Rule{{Right: side}, {Right: side[:1]}, {Right: side[1:]}, {Right: side[:0]}}}
	got, err := useful.Trim(g)
	if err != nil || !gram.Same(got, g) || !probe.GrammarsApart(got) {
		t.Errorf("Trim: %v, %v", got, err)
	}
}

// Names don't lie in those that were handed in, lest they keep a text that these were cut from.
func TestTrimmedNamesAreNewMemory(t *testing.T) {
	g := api.Grammar{Terms: []string{strings.Repeat("a", 9)}, Nonterms: []string{strings.Repeat("s", 9)}, Rules: []api.Rule{probe.Rule(0, 0)}}
	got, _ := useful.Trim(g)
	if unsafe.StringData(got.Terms[0]) == unsafe.StringData(g.Terms[0]) || unsafe.StringData(got.Nonterms[0]) == unsafe.StringData(g.Nonterms[0]) {
		t.Error("a name lies in the one that was handed in")
	}
}

func TestErrorsOfRulesAreNewMemory(t *testing.T) {
	g := example()
	g.Rules[1].Left = 4
	_, first := useful.Trim(g)
	_, second := useful.Trim(g)
	if first == second {
		t.Error("two errors of a rule are one")
	}
}

// TestExamples is the table of chapter 7.
func TestExamples(t *testing.T) {
	checkSets(t, example(), "S A C", "S A B", "S A")
	checkShortest(t, example(), 1, 1, -1, 1)
	checkWord(t, example(), 0, "b")
	checkNoWord(t, example(), 2, api.ErrNone)
	checkWord(t, example(), 3, "a")
	checkNoWord(t, example(), 4, api.ErrArg)
	checkTrim(t, example(), probe.Read("S : a A | b; A : a"))
	checkNoTrim(t, probe.Read("S : S"))
	ab := api.Grammar{Terms: []string{"a", "b"}, Nonterms: []string{"S"}, Rules: []api.Rule{probe.Rule(0, -1, -1), probe.Rule(0, 1), probe.Rule(0, 0)}}
	checkWord(t, ab, 0, "a")
	checkWord(t, probe.Read("S : | a"), 0, "")
	g := doubled(17)
	lengths, err := useful.Shortest(g)
	if err != nil || len(lengths) != 17 || lengths[0] != 65536 || lengths[1] != 32768 || lengths[16] != 1 {
		t.Errorf("Shortest of 17 doubled nonterminals: %v, %v", lengths, err)
	}
	checkWord(t, g, 0, strings.Repeat("a", 65536))
	g = doubled(18)
	if lengths, err := useful.Shortest(g); err != nil || lengths[0] != 65537 || lengths[1] != 65536 {
		t.Errorf("Shortest of 18 doubled nonterminals: %v, %v", lengths, err)
	}
	checkNoWord(t, g, 0, api.ErrLong)
}
