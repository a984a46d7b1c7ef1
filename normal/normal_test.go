package normal_test

import (
	"slices"
	"strings"
	"testing"
	"time"

	"dovetail/api"
	"dovetail/gram"
	"dovetail/normal"
	"dovetail/opform"
	"dovetail/probe"
)

// The grammars of the chapter's examples.
func brackets() api.Grammar { return probe.Read("E : E + T | T; T : i | ( E )") }
func shorter() api.Grammar  { return probe.Read("S : a; A : a; S : A b") }

// inTime fails where a call takes a minute: one that went through all choices of sets for a long right side would not end for years.
func inTime(t *testing.T, call func()) {
	t.Helper()
	done := make(chan struct{})
	go func() {
		defer close(done)
		call()
	}()
	select {
	case <-done:
	case <-time.After(time.Minute):
		t.Fatal("it doesn't end")
	}
}

// mustOf is the normal form of a grammar that has one.
func mustOf(t *testing.T, g api.Grammar) api.Normal {
	t.Helper()
	var n api.Normal
	var err error
	inTime(t, func() { n, err = normal.Of(g) })
	if err != nil {
		t.Fatalf("Of %v: %v", g, err)
	}
	return n
}

func checkOf(t *testing.T, g api.Grammar, want string) {
	t.Helper()
	if got := drawn(mustOf(t, g)); got != want {
		t.Errorf("Of %v: %s, want %s", g, got, want)
	}
}

// checkError wants an error and no normal form.
func checkError(t *testing.T, g api.Grammar, want error, rule int) {
	t.Helper()
	var n api.Normal
	var err error
	inTime(t, func() { n, err = normal.Of(g) })
	if probe.Which(err) != want || probe.RuleOf(err) != rule || len(n.Sets) != 0 || len(n.Rules) != 0 {
		t.Errorf("Of %v: %s, %v, want %v in rule %d", g, drawn(n), err, want, rule)
	}
}

func checkTooBig(t *testing.T, g api.Grammar) {
	t.Helper()
	checkError(t, g, api.ErrTooBig, probe.None)
}

// P10.1

func TestOf(t *testing.T) {
	cases := []struct{ text, want string }{
		{"S : a", "1; 0: 0"},
		{"S : a a", "1; 0: 0 0"},
		{"S : S", ""},
		{"S : a S", ""},
		{"S : S a | a S", ""},
		{"S : a | S", "1; 0: 0"},
		{"S : a | a", "1; 0: 0"},
		{"S : a S b | a b", "1; 0: 0 -1 1; 0: 0 1"},
		{"S : S + S | i", "1; 0: -1 0 -1; 0: 1"},
		{"E : E + T | T; T : i", "1 3; 0: -2 0 -2; 0: -1 0 -2; 1: 1"},
		{"E : E + T | T; T : i | ( E )", "1 3; 0: -2 0 -2; 0: -1 0 -2; 1: 1; 1: 2 -2 3; 1: 2 -1 3"},
		{"S : a | A b; A : a", "1 3; 0: -2 1; 1: 0"},
		{"S : a; A : b; B : A c", "1 2 4; 2: -2 2; 0: 0; 1: 1"},
		{"S : c B | a D | P b | Q d; B : b; D : d; P : a; Q : c",
			"1 2 4 8 16; 0: -5 3; 0: -4 2; 4: 0; 0: 0 -2; 3: 1; 0: 1 -3; 1: 2; 2: 3"},
		{"S : a B a; A : a; B : a; A : a A a", "2 3 6; 2: 0; 1: 0 -3 0; 0: 0 -2 0; 0: 0 -1 0"},
	}
	for _, c := range cases {
		checkOf(t, probe.Read(c.text), c.want)
	}
}

// A set is of all nonterminals that come to a Left, over any number of renamings, round about too.
func TestOfRenamings(t *testing.T) {
	checkOf(t, probe.Read("S : A; A : B; B : b"), "7; 0: 0")
	checkOf(t, probe.Read("S : s; A : S; B : A"), "7; 0: 0")
	checkOf(t, probe.Read("S : B; A : a; B : A"), "7; 0: 0")
	checkOf(t, probe.Read("S : A; A : B; B : S | b B"), "")
	checkOf(t, probe.Read("S : A; A : B | a; B : S | b B"), "7; 0: 0; 0: 1 -1")
	checkOf(t, probe.Read("S : A | B; A : a; B : b; D : d A | d B"), "3 5 8; 0: 0; 1: 1; 2: 2 -2; 2: 2 -1")
	checkOf(t, probe.Read("S : A | a; A : B; B : A a"), "1; 0: 0")
	checkOf(t, probe.Read("S : S | A; A : A | a; B : B"), "3; 0: 0")
}

// Several rules fit one form, by several of a set's nonterminals: what it comes to is of all of them.
func TestOfOneFormOfSeveralRules(t *testing.T) {
	checkOf(t, probe.Read("S : a; A : a; B : a"), "7; 0: 0")
	checkOf(t, probe.Read("S : a A b; A : c; B : c; D : a B b"), "6 9; 1: 0 -1 1; 0: 2")
	checkOf(t, probe.Read("S : A b A | B b B; A : a; B : a; D : A b B"), "6 9; 1: -1 0 -1; 0: 1")
	checkOf(t, probe.Read("S : A b B; A : a; B : c; D : B b A"), "1 2 4 8; 3: -3 0 -2; 0: -2 0 -3; 1: 1; 2: 2")
}

// All rules count: those that the axiom doesn't reach, and those of sets that lead nowhere. Which nonterminal is the axiom doesn't count.
func TestOfLeavesNothingOut(t *testing.T) {
	g := probe.Read("S : a; A : b B; B : c; D : d A | D d")
	for g.Axiom = range g.Nonterms {
		checkOf(t, g, "1 2 4 8; 3: -4 3; 0: 0; 1: 1 -3; 2: 2; 3: 3 -2")
	}
}

// What has a nonterminal that is in no set is no rule.
func TestOfNonterminalsInNoSet(t *testing.T) {
	checkOf(t, probe.Read("S : a | A b S | S b A | b A b; A : A a; B : b A"), "1; 0: 0")
	checkOf(t, api.Grammar{Nonterms: []string{"S"}}, "")
	checkOf(t, api.Grammar{Terms: []string{"a"}, Nonterms: []string{"S", "A"}, Rules: []api.Rule{probe.Rule(1, 0, -1)}}, "")
	checkOf(t, api.Grammar{Terms: []string{"a"}, Nonterms: []string{"S", "A"}, Rules: []api.Rule{probe.Rule(1, 0, -1), probe.Rule(1, -1), probe.Rule(0, 0)}}, "2 3; 1: 0; 0: 0 -2")
}

// Rules go by their right sides, not by lengths or by Left; sets by their numbers, not by when they are found.
func TestOfOrder(t *testing.T) {
	checkOf(t, probe.Read("S : a a a; S : a a | a b | b a | a | b"), "1; 0: 0; 0: 0 0; 0: 0 0 0; 0: 0 1; 0: 1; 0: 1 0")
	checkOf(t, probe.Read("S : b A; A : b B; B : b D; D : a"), "1 2 4 8; 2: 0 -4; 1: 0 -3; 0: 0 -2; 3: 1")
	checkOf(t, probe.Read("D : a; B : a D; A : a B; S : a A"), "1 2 4 8; 0: 0; 3: 0 -3; 2: 0 -2; 1: 0 -1")
	checkOf(t, probe.Read("S : S a S | S a | a S | a"), "1; 0: -1 0; 0: -1 0 -1; 0: 0; 0: 0 -1")
}

// A form is no other one because one of them has terminals 0 behind it, or is the beginning of the other.
func TestOfKeepsLengthsApart(t *testing.T) {
	g := api.Grammar{Terms: []string{"a"}, Nonterms: []string{"S"}}
	var want api.Normal
	for size := 1; size <= api.MaxRight; size++ {
		g.Rules = append(g.Rules, probe.Rule(0, make([]int, size)...))
	}
	want.Sets, want.Rules = []api.Set{1}, gram.Copy(g).Rules
	slices.Reverse(g.Rules)
	if got := mustOf(t, g); !sameNormal(got, want) {
		t.Errorf("Of 32 lengths: %s", drawn(got))
	}
}

func checkByOracle(t *testing.T, g api.Grammar) bool {
	t.Helper()
	want, ok := normalOf(g)
	if !ok {
		checkTooBig(t, g)
		return false
	}
	checkOf(t, g, drawn(want))
	return true
}

func TestOfManyGrammars(t *testing.T) {
	for _, g := range slices.Concat(manyGrammars(), smallGrammars()) {
		checkByOracle(t, g)
	}
}

// TestOfByWords: sets that don't fit are tried in all places, too.
func TestOfByWords(t *testing.T) {
	tried := 0
	for _, g := range slices.Concat(manyGrammars(), smallGrammars()) {
		want, ok := normalByWords(g, 100)
		if !ok {
			continue
		}
		checkOf(t, g, drawn(want))
		tried++
	}
	if tried < 20000 {
		t.Errorf("only %d grammars", tried)
	}
}

func TestOfWideGrammars(t *testing.T) {
	small, big := 0, 0
	for _, g := range wideGrammars() {
		if checkByOracle(t, g) {
			small++
		} else {
			big++
		}
	}
	if small < 500 || big < 20 {
		t.Errorf("%d grammars, and %d that are too big", small, big)
	}
}

// TestOfAllNonterminals: 59 nonterminals, each of which derives one more token than the one behind it; and 59 of one set.
func TestOfAllNonterminals(t *testing.T) {
	const most = api.MaxSymbols - 1
	g := api.Grammar{Terms: []string{"a"}, Nonterms: probe.Names("N", most)}
	same := gram.Copy(g)
	for n := range most - 1 {
		g.Rules = append(g.Rules, probe.Rule(n, 0, -2-n))
		same.Rules = append(same.Rules, probe.Rule(n, -2-n))
	}
	g.Rules = append(g.Rules, probe.Rule(most-1, 0))
	same.Rules = append(same.Rules, probe.Rule(most-1, 0), probe.Rule(0, -1, 0, -most))
	want := api.Normal{Rules: []api.Rule{probe.Rule(most-1, 0)}}
	for n := range most {
		want.Sets = append(want.Sets, 1<<n)
		if n > 0 {
			want.Rules = append(want.Rules, probe.Rule(most-1-n, 0, -1-(most-n)))
		}
	}
	if got := mustOf(t, g); !sameNormal(got, want) {
		t.Errorf("Of 59 sets: %s", drawn(got))
	}
	checkOf(t, same, "1 576460752303423487; 0: -2 0 -2; 0: -1 0 -2; 1: 0")
}

// P10.1: ErrTooBig

// stars is a grammar whose normal form has n + (n + 1) * (n + 1) rules: so many letters, each in a set of its own with S, and S of two of S with a + between.
func stars(letters int) api.Grammar {
	g := api.Grammar{Terms: append([]string{"+"}, probe.Names("t", letters)...), Nonterms: append([]string{"S"}, probe.Names("N", letters)...)}
	for n := 1; n <= letters; n++ {
		g.Rules = append(g.Rules, probe.Rule(n, n), probe.Rule(0, -1-n))
	}
	g.Rules = append(g.Rules, probe.Rule(0, -1, 0, -1))
	return g
}

// pluses is a rule of so many terminals 0.
func pluses(size int) api.Rule { return probe.Rule(0, make([]int, size)...) }

func checkSize(t *testing.T, g api.Grammar, sets, rules int) {
	t.Helper()
	if n := mustOf(t, g); len(n.Sets) != sets || len(n.Rules) != rules {
		t.Errorf("Of %v: %d sets, %d rules, want %d, %d", g.Rules, len(n.Sets), len(n.Rules), sets, rules)
	}
}

func TestOfAtTheBound(t *testing.T) {
	g := stars(23)
	checkSize(t, g, 24, 599)
	g.Rules = append(g.Rules, pluses(1))
	checkSize(t, g, 24, 600)
	checkByOracle(t, g)
	// Forms that are met again when there are 600 are none too many.
	g.Rules = append(g.Rules, pluses(1), probe.Rule(0, -1, 0, -1))
	checkSize(t, g, 24, 600)
	g.Rules[len(g.Rules)-1] = pluses(2)
	checkTooBig(t, g)
	slices.Reverse(g.Rules)
	checkTooBig(t, g)
	checkTooBig(t, stars(24))
	checkTooBig(t, stars(29))
}

// row is a right side of so many S with a + behind each of them.
func row(size int) []int { return slices.Repeat([]int{-1, 0}, size) }

// TestOfManyPlaces: two sets have S, so a rule of n places of S is 2^n rules of the normal form.
func TestOfManyPlaces(t *testing.T) {
	g := api.Grammar{Terms: []string{"+", "a", "b"}, Nonterms: []string{"S", "A", "B", "R"}}
	g.Rules = []api.Rule{probe.Rule(0, -2), probe.Rule(0, -3), probe.Rule(1, 1), probe.Rule(2, 2)}
	checkSize(t, g, 2, 2)
	for size := 1; size <= 16; size++ {
		long := g
		long.Rules = append(slices.Clone(g.Rules), probe.Rule(3, row(size)...))
		if size > 9 {
			checkTooBig(t, long)
			continue
		}
		checkSize(t, long, 3, 2+1<<size)
	}
	for _, size := range []int{9, 6, 4, 2, 1} {
		g.Rules = append(g.Rules, probe.Rule(3, row(size)...))
	}
	checkSize(t, g, 3, 600)
	checkByOracle(t, g)
	g.Rules = append(g.Rules, probe.Rule(3, 1, 1))
	checkTooBig(t, g)
}

// TestOfOneSetInManyPlaces: however many places there are, one set fills them in one way.
func TestOfOneSetInManyPlaces(t *testing.T) {
	g := probe.Read("S : + | a")
	g.Rules = append(g.Rules[1:], probe.Rule(0, row(16)...), probe.Rule(0, row(16)[:31]...), probe.Rule(0, append([]int{1}, row(15)...)...))
	checkSize(t, g, 1, 4)
}

// TestOfPlacesThatCannotBeFilled: a rule of very many choices with a place that nothing fills, ahead of the others, among them or behind them, is no rule; nor does it take long.
func TestOfPlacesThatCannotBeFilled(t *testing.T) {
	for at := range 16 {
		g := stars(20)
		g.Nonterms = append(g.Nonterms, "Z")
		long := row(16)
		long[2*at] = -22
		g.Rules = append(g.Rules, probe.Rule(0, long...))
		checkSize(t, g, 21, 20+21*21)
		g.Rules = append(g.Rules, probe.Rule(21, 0, -22))
		checkSize(t, g, 21, 20+21*21)
		g.Rules = append(g.Rules, probe.Rule(21, 0, 0, -1))
		checkTooBig(t, g)
	}
}

// TestOfPlacesThatAreFilledLate: the set that fills the rule's last place is found behind many others that don't fit there.
func TestOfPlacesThatAreFilledLate(t *testing.T) {
	g := stars(17)
	g.Nonterms = append(g.Nonterms, probe.Names("Z", 20)...)
	for n := range 19 {
		g.Rules = append(g.Rules, probe.Rule(18+n, 0, -1-(19+n)))
	}
	g.Rules = append(g.Rules, probe.Rule(37, 0, 0))
	checkSize(t, g, 38, 17+18*18+20)
	for _, at := range []int{0, 7, 15} {
		long := row(16)
		long[2*at] = -19
		late := g
		late.Rules = append(slices.Clone(g.Rules), probe.Rule(0, long...))
		checkTooBig(t, late)
		few := slices.Repeat([]int{-38, 0}, 16)
		few[2*at] = -19
		late.Rules = append(slices.Clone(g.Rules), probe.Rule(0, few...))
		checkSize(t, late, 38, 17+18*18+21)
	}
}

// wheels is a grammar of one terminal in which a nonterminal of each wheel derives the rows of n tokens, another one those of one more, and round again: so what derives n tokens is another set for each n up to the sizes' product.
func wheels(sizes ...int) api.Grammar {
	g := api.Grammar{Terms: []string{"a"}}
	first := 0
	for _, size := range sizes {
		g.Rules = append(g.Rules, probe.Rule(first, 0))
		for k := range size {
			g.Rules = append(g.Rules, probe.Rule(first+(k+1)%size, 0, -1-first-k))
		}
		first += size
	}
	g.Nonterms = probe.Names("N", first)
	return g
}

func TestOfManySets(t *testing.T) {
	g := wheels(7, 8, 9)
	var sets []api.Set
	for n := range 504 {
		sets = append(sets, 1<<(n%7)|1<<(7+n%8)|1<<(15+n%9))
	}
	want := api.Normal{Sets: slices.Clone(sets), Rules: []api.Rule{probe.Rule(0, 0)}}
	slices.Sort(want.Sets)
	for place, s := range slices.Backward(want.Sets) {
		next := sets[(slices.Index(sets, s)+1)%504]
		want.Rules = append(want.Rules, probe.Rule(slices.Index(want.Sets, next), 0, -1-place))
	}
	want.Rules[0].Left = slices.Index(want.Sets, sets[0])
	if got := mustOf(t, g); !sameNormal(got, want) {
		t.Errorf("Of wheels: %d sets, %d rules: %s", len(got.Sets), len(got.Rules), drawn(got))
	}
	checkSize(t, wheels(3, 4, 5), 60, 61)
	checkSize(t, wheels(23, 26), 598, 599)
	checkTooBig(t, wheels(24, 25))
	checkTooBig(t, wheels(7, 8, 11))
	checkTooBig(t, wheels(5, 7, 8, 9))
}

// TestWrongGrammars: opform's error comes first, with its rule, whatever else is wrong.
func TestWrongGrammars(t *testing.T) {
	var list []api.Grammar
	for _, w := range append(probe.Wrongs(brackets()), probe.Wrongs(probe.Read("S : S S"))...) {
		list = append(list, w.Grammar)
	}
	for _, text := range []string{"S : S S", "S :", "S : a | a S S", "S : a | | S S", "S : a A B | a; A : A; B : b", "S : S | A; A : a A a A A; B :"} {
		list = append(list, probe.Read(text))
	}
	big := stars(24)
	for at := range big.Rules {
		wrong := gram.Copy(big)
		wrong.Rules[at].Right = nil
		list = append(list, wrong)
	}
	for _, g := range list {
		want := opform.Check(g)
		if want == nil {
			t.Fatalf("%v is in operator form", g)
		}
		checkError(t, g, probe.Which(want), probe.RuleOf(want))
		for _, right := range [][]int{nil, {0}, {-1}, {0, -1}, {-1, -1}, {-2}, {60}} {
			for _, sets := range [][]api.Set{nil, {1}, {1 << 63}} {
				s, err := normal.Comes(g, right, sets)
				if probe.Which(err) != probe.Which(want) || probe.RuleOf(err) != probe.RuleOf(want) || s != 0 {
					t.Errorf("Comes of %v: %d, %v, want %v", g, s, err, want)
				}
			}
		}
	}
}

// P10.4

func TestOneRightSide(t *testing.T) {
	several := 0
	for _, g := range slices.Concat(manyGrammars(), smallGrammars(), wideGrammars()) {
		n, err := normal.Of(g)
		if err != nil {
			continue
		}
		if !slices.IsSorted(n.Sets) || slices.Contains(n.Sets, 0) || len(slices.Compact(slices.Clone(n.Sets))) != len(n.Sets) {
			t.Fatalf("Of %v: the sets %v", g, n.Sets)
		}
		lefts := make([]int, len(n.Sets))
		for k, r := range n.Rules {
			lefts[r.Left]++
			if k > 0 && slices.Compare(n.Rules[k-1].Right, r.Right) >= 0 || len(r.Right) == 1 && r.Right[0] < 0 {
				t.Fatalf("Of %v: rule %d of %s", g, k, drawn(n))
			}
		}
		if slices.Contains(lefts, 0) {
			t.Fatalf("Of %v: a set is no Left: %s", g, drawn(n))
		}
		if len(n.Sets) > 1 {
			several++
		}
		if faults := opform.Faults(asGrammar(g, n)); len(faults) > 0 {
			t.Fatalf("Of %v: %s: %v", g, drawn(n), faults)
		}
	}
	if several < 3000 {
		t.Errorf("only %d have several sets", several)
	}
}

// asGrammar is a normal form as a grammar, whose nonterminals are the sets.
func asGrammar(g api.Grammar, n api.Normal) api.Grammar {
	return api.Grammar{Terms: g.Terms, Nonterms: probe.Names("S", len(n.Sets)), Rules: n.Rules}
}

// P10.5

func TestRulesInAnotherOrder(t *testing.T) {
	var n probe.Numbers
	for _, g := range slices.Concat(manyGrammars(), wideGrammars()) {
		want, err := normal.Of(g)
		back := g
		back.Rules = slices.Clone(g.Rules)
		slices.Reverse(back.Rules)
		for _, other := range []api.Grammar{back, probe.Shuffled(g, &n), probe.Shuffled(g, &n)} {
			if got, of := normal.Of(other); of != err || !sameNormal(got, want) {
				t.Errorf("Of %v: %s, %v, of %v: %s, %v", g, drawn(want), err, other, drawn(got), of)
			}
		}
	}
}

func TestARuleOnceMore(t *testing.T) {
	for _, g := range append(manyGrammars()[:2000], wideGrammars()[:100]...) {
		want, err := normal.Of(g)
		for at, r := range g.Rules {
			if len(g.Rules) == api.MaxSource {
				break
			}
			more := g
			more.Rules = slices.Insert(slices.Clone(g.Rules), (at*7)%(len(g.Rules)+1), r)
			if got, of := normal.Of(more); of != err || !sameNormal(got, want) {
				t.Errorf("Of %v: %s, %v, of %v: %s, %v", g, drawn(want), err, more, drawn(got), of)
			}
		}
		more := g
		more.Rules = append(slices.Clone(g.Rules), g.Rules...)
		if len(more.Rules) <= api.MaxSource {
			if got, of := normal.Of(more); of != err || !sameNormal(got, want) {
				t.Errorf("Of %v: %s, %v, of all rules twice: %s, %v", g, drawn(want), err, drawn(got), of)
			}
		}
	}
}

// The chapter's examples

func TestExamples(t *testing.T) {
	g, h := brackets(), shorter()
	checkOf(t, g, "1 3; 0: -2 0 -2; 0: -1 0 -2; 1: 1; 1: 2 -2 3; 1: 2 -1 3")
	checkStarts(t, g, mustOf(t, g), 0, 1)
	checkOf(t, h, "1 3; 0: -2 1; 1: 0")
	checkComes(t, g, "i", 3)
	checkComes(t, g, "( _ )", 3, 3)
	checkComes(t, g, "_ + _", 0, 2, 1)
	checkNoForm(t, g, []int{-1}, 1)
	checkNoForm(t, g, []int{0, -1, -1}, 1, 1)
	checkNoForm(t, g, []int{1}, 1)
	checkOf(t, probe.Read("S : S a | a S"), "")
	checkError(t, probe.Read("S : S S"), api.ErrNotOperator, 0)
}

// spelt are the numbers of a right side of terminals' names, parted by a space, with _ for a set.
func spelt(g api.Grammar, text string) []int {
	var right []int
	for _, name := range strings.Fields(text) {
		n, ok := gram.Term(g, name)
		if !ok {
			n = -1
		}
		right = append(right, n)
	}
	return right
}
