package matrix_test

import (
	"bytes"
	"math"
	"slices"
	"testing"

	"dovetail/api"
	"dovetail/ends"
	"dovetail/gram"
	"dovetail/matrix"
	"dovetail/probe"
)

// The grammars of the chapter's examples.
func sums() api.Grammar { return probe.Read("E : E + E | i") }
func nest() api.Grammar { return probe.Read("S : a S b | a b") }

const most = api.MaxSymbols - 1

// mustOf is the matrix of a grammar that may be.
func mustOf(t *testing.T, g api.Grammar) *matrix.Matrix {
	t.Helper()
	m, err := matrix.Of(g)
	if err != nil || m == nil || m.Terms() != len(g.Terms)+1 {
		t.Fatalf("Of %v: %v, %v", g, m, err)
	}
	return m
}

func checkOf(t *testing.T, g api.Grammar, want string) {
	t.Helper()
	m := mustOf(t, g)
	if got := drawn(tableFrom(m), m.Terms()); got != want {
		t.Errorf("Of %v: %s, want %s", g, got, want)
	}
}

// noTerms are numbers that are neither terminals nor the end of a grammar of so many terminals, the end counted.
func noTerms(terms int) []int {
	return []int{terms, terms + 1, 60, 61, 63, 64, 65, 128, 256, math.MaxInt, -1, -2, -64, math.MinInt}
}

// noRelations are numbers that are no relation's.
func noRelations() []int { return []int{-1, -2, 4, 5, 8, 60, 256, math.MaxInt, math.MinInt} }

// P9.1

func TestOf(t *testing.T) {
	cases := []struct{ text, want string }{
		{"S :", "."},
		{"S : S", "."},
		{"S : S S", "."},
		{"S : a", ". >; < ."},
		{"S : a b", ". = .; . . >; < . ."},
		{"S : a b c", ". = . .; . . = .; . . . >; < . . ."},
		{"S : a S b | a b", "< = .; . > >; < . ."},
		{"S : a | S b", ". > >; . > >; < < ."},
		{"S : a | b S", ". . >; < < >; < < ."},
		{"S : A b A; A : a", ". < >; > . >; < < ."},
		{"S : S a S", "<> >; < ."},
		{"S : a S a", "<=> >; < ."},
		{"S : a b | A b; A : a", ". => .; . . >; < < ."},
		{"S : a b | a B; B : b", ". <= >; . . >; < . ."},
		{"S : a B c; B : D; D : b", ". = < .; . . . >; . > . .; < . . ."},
		{"S : c B | a D | P b | Q d; B : b; D : d; P : a; Q : c", ". . < > >; . . > < >; . . . . >; . . . . >; < < < < ."},
	}
	for _, c := range cases {
		checkOf(t, probe.Read(c.text), c.want)
	}
}

// Nothing is looked for beyond the one nonterminal that stands right beside a terminal.
func TestOfMoreThanOneBetween(t *testing.T) {
	checkOf(t, probe.Read("S : a S S b"), "< . .; . > >; < . .")
	checkOf(t, probe.Read("S : a A B C b; A : c; B : d; C : e"), ". . < . . .; . . . . . >; . . . . . .; . . . . . .; . > . . . .; < . . . . .")
	checkOf(t, probe.Read("S : a A b A c; A : d"), ". = . < .; . . = < .; . . . . >; . > > . .; < . . . .")
	checkOf(t, probe.Read("S : A A; A : a b A A c"), ". = . .; < . . .; . . > >; < . . .")
}

// What derives nothing, or no tokens, stands there like all else.
func TestOfBesideEmptyRightSides(t *testing.T) {
	checkOf(t, probe.Read("S : a A b; A :"), ". = .; . . >; < . .")
	checkOf(t, probe.Read("S : a A b; A : A"), ". = .; . . >; < . .")
	checkOf(t, probe.Read("S : a A B b; A : ; B : c"), ". . . .; . . . >; . > . .; < . . .")
	checkOf(t, probe.Read("S : a B A b; A : ; B : c"), ". . < .; . . . >; . . . .; < . . .")
}

// Rules count whether they are reached from the axiom or not.
func TestOfAllRules(t *testing.T) {
	checkOf(t, probe.Read("S : a; A : b A c"), ". . . >; . < = .; . . > .; < . . .")
	g := probe.Read("S : a; A : b c; B : B")
	g.Axiom = 1
	checkOf(t, g, ". . . .; . . = .; . . . >; . < . .")
	g.Axiom = 2
	checkOf(t, g, ". . . .; . . = .; . . . .; . . . .")
}

func TestOfNothing(t *testing.T) {
	checkOf(t, api.Grammar{Nonterms: []string{"S"}}, ".")
	checkOf(t, api.Grammar{Terms: []string{"a", "b"}, Nonterms: []string{"S", "A"}}, ". . .; . . .; . . .")
	checkOf(t, api.Grammar{Terms: []string{"a"}, Nonterms: []string{"S"}, Rules: []api.Rule{probe.Rule(0), probe.Rule(0, -1)}}, ". .; . .")
}

// TestOfAllTerminals: S begins and ends with each of 59 terminals; each one is equal to the next one, and S stands between the last one and the first.
func TestOfAllTerminals(t *testing.T) {
	g := api.Grammar{Terms: probe.Names("t", most), Nonterms: []string{"S"}, Rules: []api.Rule{probe.Rule(0, most-1, -1, 0)}}
	for k := range most - 1 {
		g.Rules = append(g.Rules, probe.Rule(0, k, k+1))
	}
	m := mustOf(t, g)
	if m.Terms() != 60 {
		t.Fatalf("Terms: %d", m.Terms())
	}
	for a := range 60 {
		for b := range 60 {
			want := [api.Takes + 1]bool{}
			want[api.Equal] = a < most-1 && b == a+1 || a == most-1 && b == 0
			want[api.Yields] = a >= most-1 && b < most
			want[api.Takes] = a < most && (b == 0 || b == most)
			want[api.None] = want == [api.Takes + 1]bool{}
			for relation, holds := range want {
				if m.Holds(a, b, relation) != holds {
					t.Errorf("%d and %d, relation %d: %v", a, b, relation, !holds)
				}
			}
		}
	}
}

func TestTerms(t *testing.T) {
	for n := range api.MaxSymbols {
		for _, g := range []api.Grammar{
			{Terms: probe.Names("t", n), Nonterms: []string{"S"}},
			{Terms: probe.Names("t", n), Nonterms: probe.Names("N", api.MaxSymbols-n)},
		} {
			if m, err := matrix.Of(g); err != nil || m.Terms() != n+1 {
				t.Errorf("%d terminals: %d, %v", n, m.Terms(), err)
			}
		}
	}
}

func TestOfManyGrammars(t *testing.T) {
	seen := make(map[[api.Takes + 1]bool]int)
	for _, g := range slices.Concat(manyGrammars(), smallGrammars(), wideGrammars()) {
		e, err := ends.Of(g)
		if err != nil {
			t.Fatal(err)
		}
		m, want := mustOf(t, g), tableOf(g, e)
		if got := tableFrom(m); !slices.Equal(got, want) {
			t.Errorf("Of %v: %s, want %s", g, drawn(got, m.Terms()), drawn(want, m.Terms()))
		}
		for _, of := range want {
			seen[of]++
		}
	}
	for of, n := range seen {
		if n < 500 {
			t.Errorf("only %d pairs of %v", n, of)
		}
	}
	if len(seen) != 8 {
		t.Errorf("not all sets of relations are seen: %v", seen)
	}
}

// TestWrongGrammars: both functions tell gram's error ahead of their own, and nothing else.
func TestWrongGrammars(t *testing.T) {
	for _, w := range append(probe.Wrongs(nest()), probe.Wrongs(probe.Read("S : S"))...) {
		want := gram.Check(w.Grammar)
		check := func(call string, err error, zero bool) {
			if probe.Which(err) != probe.Which(want) || probe.RuleOf(err) != probe.RuleOf(want) || want == nil {
				t.Errorf("%s, %s: %v, want %v", call, w.What, err, want)
			}
			if !zero {
				t.Errorf("%s, %s: an answer beside the error", call, w.What)
			}
		}
		m, err := matrix.Of(w.Grammar)
		check("Of", err, m == nil)
		for a := -1; a < 70; a++ {
			for b := -1; b < 70; b++ {
				for relation := -1; relation < 5; relation++ {
					why, err := matrix.Why(w.Grammar, a, b, relation)
					check("Why", err, why.Rule == 0 && why.At == 0 && len(why.Chain) == 0)
				}
			}
		}
	}
}

// P9.2

func TestHoldsOfWrongNumbers(t *testing.T) {
	for _, g := range []api.Grammar{nest(), sums(), probe.Read("S : S"), {Terms: probe.Names("t", most), Nonterms: []string{"S"}}} {
		m := mustOf(t, g)
		for relation := range api.Takes + 1 {
			for _, no := range noTerms(m.Terms()) {
				for k := range m.Terms() {
					if m.Holds(k, no, relation) || m.Holds(no, k, relation) || m.At(k, no) != api.None || m.At(no, k) != api.None {
						t.Errorf("%d and %d of %d terminals, relation %d", k, no, m.Terms(), relation)
					}
				}
				if m.Holds(no, no, relation) || m.At(no, no) != api.None {
					t.Errorf("%d and itself of %d terminals, relation %d", no, m.Terms(), relation)
				}
			}
		}
		for _, no := range noRelations() {
			for a := range m.Terms() {
				for b := range m.Terms() {
					if m.Holds(a, b, no) {
						t.Errorf("Holds of %d, %d, %d", a, b, no)
					}
				}
				if m.Holds(a, m.Terms(), no) || m.Holds(-1, a, no) {
					t.Errorf("Holds of %d and no terminal, %d", a, no)
				}
			}
		}
	}
}

// least is the least of a pair's relations.
func least(of [api.Takes + 1]bool) int {
	if at := slices.Index(of[1:], true); at >= 0 {
		return at + 1
	}
	return api.None
}

func TestAt(t *testing.T) {
	cases := []struct {
		text string
		want []int
	}{
		{"S : a", []int{0, 3, 1, 0}},
		{"S : S a S", []int{1, 3, 1, 0}},
		{"S : a S a", []int{1, 3, 1, 0}},
		{"S : a b | A b; A : a", []int{0, 2, 0, 0, 0, 3, 1, 1, 0}},
		{"S : a b | a B; B : b", []int{0, 1, 3, 0, 0, 3, 1, 0, 0}},
		{"S : a S b | a b", []int{1, 2, 0, 0, 3, 3, 1, 0, 0}},
	}
	for _, c := range cases {
		m := mustOf(t, probe.Read(c.text))
		for k, want := range c.want {
			if a, b := k/m.Terms(), k%m.Terms(); m.At(a, b) != want {
				t.Errorf("%s: At of %d and %d: %d, want %d", c.text, a, b, m.At(a, b), want)
			}
		}
	}
	for _, g := range slices.Concat(manyGrammars(), wideGrammars()) {
		m := mustOf(t, g)
		for k, of := range tableFrom(m) {
			if a, b := k/m.Terms(), k%m.Terms(); m.At(a, b) != least(of) {
				t.Errorf("%v: At of %d and %d: %d of %v", g, a, b, m.At(a, b), of)
			}
		}
	}
}

// P9.3

func checkClashes(t *testing.T, g api.Grammar, want ...api.Pair) {
	t.Helper()
	m := mustOf(t, g)
	if got := m.Clashes(); !slices.Equal(got, want) {
		t.Errorf("Clashes of %v: %v, want %v", g, got, want)
	}
	var first api.Pair
	if len(want) > 0 {
		first = want[0]
	}
	if p, ok := m.Clash(); p != first || ok != (len(want) > 0) {
		t.Errorf("Clash of %v: %v %v, want %v", g, p, ok, first)
	}
}

func TestClashes(t *testing.T) {
	const y, e, k = api.Yields, api.Equal, api.Takes
	checkClashes(t, probe.Read("S :"))
	checkClashes(t, nest())
	checkClashes(t, probe.Read("E : E + T | T; T : i"))
	checkClashes(t, sums(), api.Pair{A: 0, B: 0, First: y, Second: k})
	checkClashes(t, probe.Read("S : a b | A b; A : a"), api.Pair{A: 0, B: 1, First: e, Second: k})
	checkClashes(t, probe.Read("S : a b | a B; B : b"), api.Pair{A: 0, B: 1, First: y, Second: e})
	checkClashes(t, probe.Read("S : a S a"), api.Pair{First: y, Second: e}, api.Pair{First: y, Second: k}, api.Pair{First: e, Second: k})
	checkClashes(t, probe.Read("S : c | S a S | S b S"),
		api.Pair{A: 1, B: 1, First: y, Second: k}, api.Pair{A: 1, B: 2, First: y, Second: k},
		api.Pair{A: 2, B: 1, First: y, Second: k}, api.Pair{A: 2, B: 2, First: y, Second: k})
	checkClashes(t, probe.Read("S : a | b S b | c B; B : c"),
		api.Pair{A: 1, B: 1, First: y, Second: e}, api.Pair{A: 1, B: 1, First: y, Second: k}, api.Pair{A: 1, B: 1, First: e, Second: k})
}

// clashesOf are all clashes of a table, as the chapter says them.
func clashesOf(list table, terms int) []api.Pair {
	var clashes []api.Pair
	for k, of := range list {
		for first := 1; first <= 3; first++ {
			for second := first + 1; second <= 3; second++ {
				if of[first] && of[second] {
					clashes = append(clashes, api.Pair{A: k / terms, B: k % terms, First: first, Second: second})
				}
			}
		}
	}
	return clashes
}

func TestClashesOfManyGrammars(t *testing.T) {
	without := 0
	for _, g := range slices.Concat(manyGrammars(), smallGrammars(), wideGrammars()) {
		want := clashesOf(tableFrom(mustOf(t, g)), len(g.Terms)+1)
		checkClashes(t, g, want...)
		if len(want) == 0 {
			without++
		}
	}
	if without < 1000 {
		t.Errorf("only %d have no clash", without)
	}
}

// P9.4

func checkPack(t *testing.T, text string, want ...byte) {
	t.Helper()
	if got := mustOf(t, probe.Read(text)).Pack(); !bytes.Equal(got, want) {
		t.Errorf("Pack of %s: %x, want %x", text, got, want)
	}
}

func TestPack(t *testing.T) {
	checkPack(t, "S :", 0)
	checkPack(t, "S : a", 0x1c)
	checkPack(t, "S : a a", 0x1e)
	checkPack(t, "S : S a S", 0x1d)
	checkPack(t, "S : a S a", 0x1d)
	checkPack(t, "S : a S b | a b", 0x09, 0x1f, 0)
	checkPack(t, "S : a b | A b; A : a", 0x08, 0x5c, 0)
	checkPack(t, "S : c a b", 0x08, 0x20, 0xc0, 0x01)
}

func TestPackOfManyGrammars(t *testing.T) {
	for _, g := range slices.Concat(manyGrammars(), smallGrammars(), wideGrammars()) {
		m := mustOf(t, g)
		list := tableFrom(m)
		packed := m.Pack()
		if size := (len(list)*2 + 7) / 8; len(packed) != size {
			t.Fatalf("Pack of %d pairs: %d bytes", len(list), len(packed))
		}
		for k := range 4 * len(packed) {
			want := 0
			if k < len(list) {
				want = least(list[k])
			}
			for bit := range 2 {
				place := 2*k + bit
				if int(packed[place/8]>>(place%8)&1) != want>>bit&1 {
					t.Fatalf("Pack of %v: %x, pair %d", g, packed, k)
				}
			}
		}
	}
}

func TestPackOfAllSizes(t *testing.T) {
	for n := range api.MaxSymbols {
		g := api.Grammar{Terms: probe.Names("t", n), Nonterms: []string{"S"}}
		if packed := mustOf(t, g).Pack(); !bytes.Equal(packed, make([]byte, ((n+1)*(n+1)+3)/4)) {
			t.Errorf("Pack of %d terminals: %x", n, packed)
		}
	}
}

// P9.6

func TestRulesInAnotherOrder(t *testing.T) {
	var n probe.Numbers
	for _, g := range append(manyGrammars(), wideGrammars()...) {
		other := probe.Shuffled(g, &n)
		m, of := mustOf(t, g), mustOf(t, other)
		if !slices.Equal(tableFrom(m), tableFrom(of)) {
			t.Errorf("Of %v: %s, of %v: %s", g, drawn(tableFrom(m), m.Terms()), other, drawn(tableFrom(of), of.Terms()))
		}
	}
}

func TestWithARuleMore(t *testing.T) {
	more := 0
	for _, g := range append(manyGrammars(), wideGrammars()[:5]...) {
		list := tableFrom(mustOf(t, g))
		for n, less := range probe.Lessened(g) {
			before := tableFrom(mustOf(t, less))
			for k, of := range before {
				for relation := api.Yields; relation <= api.Takes; relation++ {
					if of[relation] && !list[k][relation] {
						t.Errorf("rule %d more in %v: relation %d of pair %d doesn't hold", n, g, relation, k)
					}
				}
			}
			if !slices.Equal(before, list) {
				more++
			}
		}
	}
	if more < 5000 {
		t.Errorf("only %d rules add anything", more)
	}
}

func TestTurnedAbout(t *testing.T) {
	unlike := 0
	for _, g := range slices.Concat(manyGrammars(), smallGrammars(), wideGrammars()) {
		m, of := mustOf(t, g), mustOf(t, probe.Turned(g))
		for a := range m.Terms() {
			for b := range m.Terms() {
				if m.Holds(a, b, api.Yields) != of.Holds(b, a, api.Takes) || m.Holds(a, b, api.Takes) != of.Holds(b, a, api.Yields) || m.Holds(a, b, api.Equal) != of.Holds(b, a, api.Equal) {
					t.Errorf("%d and %d of %v, and turned about", a, b, g)
				}
			}
		}
		if !slices.Equal(tableFrom(m), tableFrom(of)) {
			unlike++
		}
	}
	if unlike < 3000 {
		t.Errorf("only %d have another matrix when turned about", unlike)
	}
}

// P9.7, as far as it is of the matrix

func TestTheEnd(t *testing.T) {
	for _, g := range slices.Concat(manyGrammars(), smallGrammars(), wideGrammars()) {
		m := mustOf(t, g)
		e, _ := ends.Of(g)
		end := len(g.Terms)
		for k := range m.Terms() {
			if m.Holds(end, k, api.Equal) || m.Holds(end, k, api.Takes) || m.Holds(k, end, api.Yields) || m.Holds(k, end, api.Equal) {
				t.Errorf("the end and %d of %v", k, g)
			}
			if m.Holds(end, k, api.Yields) != (e.Left[g.Axiom]>>k&1 == 1) || m.Holds(k, end, api.Takes) != (e.Right[g.Axiom]>>k&1 == 1) {
				t.Errorf("the axiom's ends and %d of %v", k, g)
			}
		}
	}
}

// P9.8

func TestNilMatrix(t *testing.T) {
	for _, m := range []*matrix.Matrix{nil, {}} {
		if m.Terms() != 0 || len(m.Clashes()) != 0 || len(m.Pack()) != 0 {
			t.Errorf("%v: %d, %v, %v", m, m.Terms(), m.Clashes(), m.Pack())
		}
		if p, ok := m.Clash(); ok || p != (api.Pair{}) {
			t.Errorf("Clash: %v %v", p, ok)
		}
		for _, a := range append(noTerms(0), 0, 1) {
			for _, b := range append(noTerms(0), 0, 1) {
				for _, relation := range append(noRelations(), 0, 1, 2, 3) {
					if m.Holds(a, b, relation) || m.At(a, b) != api.None {
						t.Errorf("Holds of %d, %d, %d", a, b, relation)
					}
				}
			}
		}
	}
}

func TestNothingIsChanged(t *testing.T) {
	for _, g := range slices.Concat(manyGrammars()[:1500], wideGrammars()[:3], []api.Grammar{nest(), {}, {Nonterms: []string{"S"}, Axiom: 1}}) {
		g = probe.Roomy(g)
		before := gram.Copy(probe.Whole(g))
		matrix.Of(g)
		for a := range min(len(g.Terms)+2, 9) {
			for b := range min(len(g.Terms)+2, 9) {
				for relation := range 5 {
					matrix.Why(g, a, b, relation)
				}
			}
		}
		if !gram.Same(before, probe.Whole(g)) {
			t.Fatalf("%v is changed to %v", before, probe.Whole(g))
		}
	}
}

// TestNothingIsKept: a later change of what was handed in is seen by the next call, and not in a matrix that there is.
func TestNothingIsKept(t *testing.T) {
	g := nest()
	m := mustOf(t, g)
	why, _ := matrix.Why(g, 0, 0, api.Yields)
	g.Rules[0].Right[0], g.Rules[1].Right[1], g.Terms = 1, 0, append(g.Terms, "c")
	if got := drawn(tableFrom(m), m.Terms()); got != "< = .; . > >; < . ." || !bytes.Equal(m.Pack(), []byte{9, 31, 0}) {
		t.Errorf("the matrix became %s", got)
	}
	if why.Rule != 0 || why.At != 0 || !slices.Equal(why.Chain, []int{0}) {
		t.Errorf("the reason became %v", why)
	}
	checkOf(t, g, "= > . >; < <=> . >; . . . .; < < . .")
}

// What was answered may be changed, with the room behind it, and no later answer shows it; no call changes a matrix.
func TestAnswersMayBeChanged(t *testing.T) {
	for _, g := range append(manyGrammars()[:500], probe.Read("S : a S a")) {
		m := mustOf(t, g)
		before := tableFrom(m)
		packed, clashes := bytes.Clone(m.Pack()), slices.Clone(m.Clashes())
		for range 3 {
			p, c := m.Pack(), m.Clashes()
			if !slices.Equal(tableFrom(m), before) || !bytes.Equal(p, packed) || !slices.Equal(c, clashes) {
				t.Fatalf("%v: %x, %v, want %x, %v", g, p, c, packed, clashes)
			}
			clear(p[:cap(p)])
			clear(c[:cap(c)])
			mustOf(t, nest())
		}
	}
}

func TestAnswersAreNewMemory(t *testing.T) {
	for _, g := range append(manyGrammars()[:500], wideGrammars()[:3]...) {
		m, of := mustOf(t, g), mustOf(t, g)
		if m == of || !probe.Apart(m.Pack(), m.Pack(), of.Pack()) || !probe.Apart(m.Clashes(), m.Clashes(), of.Clashes()) {
			t.Fatalf("answers of %v share memory", g)
		}
	}
}
