package gram_test

import (
	"math"
	"runtime"
	"slices"
	"strconv"
	"strings"
	"testing"
	"unsafe"
	"weak"

	"dovetail/api"
	"dovetail/gram"
	"dovetail/probe"
)

// P3.5

// builders are the ways to get one.
func builders() map[string]*gram.Builder {
	return map[string]*gram.Builder{"NewBuilder": gram.NewBuilder(), "zero": {}}
}

func checkGrammar(t *testing.T, what string, b *gram.Builder, want api.Grammar) {
	t.Helper()
	got, err := b.Grammar()
	if err != nil || !same(got, want) {
		t.Errorf("%s: %v %v, want %v", what, got, err, want)
	}
}

func checkNoGrammar(t *testing.T, what string, b *gram.Builder, want error, rule int) {
	t.Helper()
	got, err := b.Grammar()
	checkError(t, what, err, want, rule)
	if !same(got, api.Grammar{}) {
		t.Errorf("%s: %v beside an error", what, got)
	}
}

func TestBuilderNumbersNames(t *testing.T) {
	for what, b := range builders() {
		told := []struct {
			number func(string) int
			name   string
			want   int
		}{
			{b.Nonterm, "A", 0},
			{b.Term, "t", 0},
			{b.Term, "t", 0},
			{b.Term, "A", 1},
			{b.Nonterm, "t", 1},
			{b.Nonterm, "B", 2},
			{b.Term, "u", 2},
			{b.Nonterm, "t", 1},
			{b.Nonterm, "A", 0},
			{b.Term, "A", 1},
			{b.Term, "T", 3},
			{b.Term, "u", 2},
		}
		for _, c := range told {
			if got := c.number(c.name); got != c.want {
				t.Errorf("%s: the number of %q: %d, want %d", what, c.name, got, c.want)
			}
		}
		checkGrammar(t, what, b, api.Grammar{Terms: []string{"t", "A", "u", "T"}, Nonterms: []string{"A", "t", "B"}})
	}
}

func TestBuilderOfNothing(t *testing.T) {
	for what, b := range builders() {
		checkNoGrammar(t, what, b, api.ErrArg, noRule)
		b.Nonterm("S")
		checkGrammar(t, what, b, api.Grammar{Nonterms: []string{"S"}})
	}
}

func TestBuilderRulesAndAxiom(t *testing.T) {
	for what, b := range builders() {
		b.Rule(1, 0, -1, 1)
		b.Rule(0)
		b.Axiom(5)
		b.Rule(1, -2)
		b.Rule(0)
		b.Axiom(1)
		b.Nonterm("S")
		b.Nonterm("T")
		b.Term("a")
		b.Term("b")
		b.Rule(0, []int{}...)
		want := api.Grammar{Terms: []string{"a", "b"}, Nonterms: []string{"S", "T"}, Axiom: 1, Rules: []api.Rule{rule(1, 0, -1, 1), rule(0), rule(1, -2), rule(0), rule(0)}}
		checkGrammar(t, what, b, want)
		checkGrammar(t, what+" again", b, want)
		b.Axiom(0)
		b.Nonterm("U")
		b.Rule(2, -3)
		want.Axiom, want.Nonterms, want.Rules = 0, append(want.Nonterms, "U"), append(want.Rules, rule(2, -3))
		checkGrammar(t, what+" told more", b, want)
	}
}

// What Grammar refuses stands there as before: it may be mended by what is told later.
func TestBuilderIsMended(t *testing.T) {
	b := gram.NewBuilder()
	b.Axiom(-1)
	b.Nonterm("S")
	checkNoGrammar(t, "axiom -1", b, api.ErrArg, noRule)
	b.Axiom(1)
	checkNoGrammar(t, "axiom 1", b, api.ErrArg, noRule)
	b.Axiom(0)
	b.Rule(0, -1)
	b.Rule(1, 0)
	checkNoGrammar(t, "a Left that is none's", b, api.ErrArg, 1)
	b.Nonterm("T")
	checkNoGrammar(t, "a terminal that there isn't", b, api.ErrArg, 1)
	b.Term("a")
	checkGrammar(t, "mended", b, api.Grammar{Terms: []string{"a"}, Nonterms: []string{"S", "T"}, Rules: []api.Rule{rule(0, -1), rule(1, 0)}})
}

func TestBuilderTellsChecksError(t *testing.T) {
	tell := func(g api.Grammar) *gram.Builder {
		b := gram.NewBuilder()
		for _, name := range g.Terms {
			b.Term(name)
		}
		for _, name := range g.Nonterms {
			b.Nonterm(name)
		}
		b.Axiom(g.Axiom)
		for _, r := range g.Rules {
			b.Rule(r.Left, r.Right...)
		}
		return b
	}
	for _, f := range slices.Concat(faults()...) {
		if strings.HasSuffix(f.what, "twice") {
			continue // a Builder has no name twice
		}
		g := sums()
		f.turn(&g)
		checkNoGrammar(t, f.what, tell(g), f.err, f.rule)
	}
	for _, g := range manyGrammars() {
		checkGrammar(t, "told of a grammar", tell(g), g)
	}
}

func TestBuilderLooksAtNoNumber(t *testing.T) {
	for _, n := range []int{math.MinInt, -1, 1, 60, math.MaxInt} {
		for what, b := range builders() {
			b.Rule(n, n, -1-n)
			b.Axiom(n)
			b.Nonterm("S")
			checkNoGrammar(t, what, b, api.ErrArg, noRule)
			b.Axiom(0)
			checkNoGrammar(t, what, b, api.ErrArg, 0)
		}
	}
}

// Names and rules beyond the bounds have their numbers all the same, and quickly.
func TestBuilderBeyondTheBounds(t *testing.T) {
	b := gram.NewBuilder()
	const many = 100000
	for range 2 {
		for n := range many {
			name := strconv.Itoa(n)
			if term, nonterm := b.Term(name), b.Nonterm("n"+name); term != n || nonterm != n {
				t.Fatalf("the numbers of name %d: %d, %d", n, term, nonterm)
			}
		}
	}
	checkNoGrammar(t, "names", b, api.ErrBounds, noRule)
	b = gram.NewBuilder()
	b.Nonterm("S")
	for range api.MaxSource {
		b.Rule(0, make([]int, 33)...)
	}
	checkNoGrammar(t, "33 symbols", b, api.ErrBounds, 0)
	b.Rule(0)
	checkNoGrammar(t, "121 rules", b, api.ErrBounds, noRule)
}

func TestBuilderOfNames(t *testing.T) {
	b := gram.NewBuilder()
	b.Nonterm("S")
	if n, m := b.Term(""), b.Term(""); n != 0 || m != 0 {
		t.Errorf("the number of a name without bytes: %d, %d", n, m)
	}
	checkNoGrammar(t, "a name without bytes", b, api.ErrName, noRule)
	b = gram.NewBuilder()
	b.Nonterm(strings.Repeat("S", 32))
	b.Term("\xff")
	b.Term("\xfe")
	checkGrammar(t, "32 bytes", b, api.Grammar{Terms: []string{"\xff", "\xfe"}, Nonterms: []string{strings.Repeat("S", 32)}})
	b.Nonterm(strings.Repeat("S", 33))
	checkNoGrammar(t, "33 bytes", b, api.ErrName, noRule)
}

func TestNilBuilder(t *testing.T) {
	var none *gram.Builder
	none.Rule(0)
	none.Rule(1, -1, 2)
	none.Axiom(1)
	for _, name := range []string{"", "S", "T"} {
		if term, nonterm := none.Term(name), none.Nonterm(name); term != 0 || nonterm != 0 {
			t.Errorf("numbers of a nil Builder: %d, %d", term, nonterm)
		}
	}
	checkNoGrammar(t, "a nil Builder", none, api.ErrArg, noRule)
}

func TestBuildersAreApart(t *testing.T) {
	a, b := gram.NewBuilder(), gram.NewBuilder()
	a.Nonterm("A")
	a.Term("t")
	a.Rule(0, 0)
	if n := b.Nonterm("B"); n != 0 {
		t.Errorf("one Builder's number told by another one: %d", n)
	}
	checkGrammar(t, "a", a, api.Grammar{Terms: []string{"t"}, Nonterms: []string{"A"}, Rules: []api.Rule{rule(0, 0)}})
	checkGrammar(t, "b", b, api.Grammar{Nonterms: []string{"B"}})
}

// P3.6

// telling is how a grammar's names and rules are told, with the names in an order of their own ahead of the rules.
func telling(t *testing.T, g api.Grammar, terms, nonterms []int) api.Grammar {
	t.Helper()
	b := gram.NewBuilder()
	for _, n := range terms {
		b.Term(g.Terms[n])
	}
	for _, n := range nonterms {
		b.Nonterm(g.Nonterms[n])
	}
	b.Axiom(b.Nonterm(g.Nonterms[g.Axiom]))
	for _, r := range g.Rules {
		var right []int
		for _, symbol := range r.Right {
			if symbol < 0 {
				right = append(right, -1-b.Nonterm(g.Nonterms[-1-symbol]))
			} else {
				right = append(right, b.Term(g.Terms[symbol]))
			}
		}
		b.Rule(b.Nonterm(g.Nonterms[r.Left]), right...)
	}
	told, err := b.Grammar()
	if err != nil {
		t.Errorf("told again: %v", err)
	}
	return told
}

// byNames is a grammar's axiom and rules with names in the place of numbers.
func byNames(g api.Grammar) []string {
	list := []string{g.Nonterms[g.Axiom]}
	for _, r := range g.Rules {
		text := g.Nonterms[r.Left] + ":"
		for _, symbol := range r.Right {
			if symbol < 0 {
				text += " <" + g.Nonterms[-1-symbol] + ">"
			} else {
				text += " " + g.Terms[symbol]
			}
		}
		list = append(list, text)
	}
	return list
}

func TestBuilderToldWithOtherNumbers(t *testing.T) {
	var n probe.Numbers
	for _, g := range manyGrammars() {
		terms, nonterms := n.Order(len(g.Terms)), n.Order(len(g.Nonterms))
		told := telling(t, g, terms, nonterms)
		for k, from := range terms {
			if told.Terms[k] != g.Terms[from] {
				t.Errorf("terminal %d: %q, want %q", k, told.Terms[k], g.Terms[from])
			}
		}
		for k, from := range nonterms {
			if told.Nonterms[k] != g.Nonterms[from] {
				t.Errorf("nonterminal %d: %q, want %q", k, told.Nonterms[k], g.Nonterms[from])
			}
		}
		if got, want := byNames(told), byNames(g); !slices.Equal(got, want) {
			t.Errorf("told with other numbers: %q, want %q", got, want)
		}
	}
}

// P3.8

func TestBuilderLeavesAndKeepsNoList(t *testing.T) {
	b := gram.NewBuilder()
	b.Nonterm("S")
	b.Term("a")
	b.Term("b")
	room := []int{0, -1, 1, 98, 99}
	b.Rule(0, room[:3]...)
	b.Rule(0, room[:2]...)
	if !slices.Equal(room, []int{0, -1, 1, 98, 99}) {
		t.Errorf("Rule changed its list, or the room behind it: %v", room)
	}
	clear(room)
	checkGrammar(t, "after its lists were changed", b, api.Grammar{Terms: []string{"a", "b"}, Nonterms: []string{"S"}, Rules: []api.Rule{rule(0, 0, -1, 1), rule(0, 0, -1)}})
	if slices.Contains(room, -1) {
		t.Errorf("Grammar changed a list that Rule was told: %v", room)
	}
}

func TestBuilderGrammarIsNewMemory(t *testing.T) {
	b := gram.NewBuilder()
	want := api.Grammar{}
	for k := range 20 {
		name := strconv.Itoa(k)
		b.Term(name)
		b.Nonterm(name)
		b.Rule(k, k, -1-k)
		want.Terms, want.Nonterms = append(want.Terms, name), append(want.Nonterms, name)
		want.Rules = append(want.Rules, rule(k, k, -1-k))
		first, _ := b.Grammar()
		second, _ := b.Grammar()
		third, _ := b.Grammar()
		spoil(first)
		if !same(second, want) {
			t.Errorf("two grammars of one Builder share memory: %v", second)
		}
		checkGrammar(t, "after its answer was changed", b, want)
		if !probe.GrammarsApart(third) {
			t.Error("lists of a Builder's grammar share memory")
		}
		b.Rule(0)
		b.Axiom(0)
		want.Rules = append(want.Rules, api.Rule{})
	}
}

func TestBuilderAnswersAreNotReachedByLaterCalls(t *testing.T) {
	b := gram.NewBuilder()
	b.Nonterm("S")
	b.Term("a")
	b.Rule(0, 0)
	g, _ := b.Grammar()
	room := g.Rules[:cap(g.Rules)]
	b.Term("b")
	b.Nonterm("T")
	b.Rule(1, 1)
	b.Axiom(1)
	if !same(g, api.Grammar{Terms: []string{"a"}, Nonterms: []string{"S"}, Rules: []api.Rule{rule(0, 0)}}) {
		t.Errorf("a grammar that was answered: %v", g)
	}
	for _, r := range room[1:] {
		if r.Left != 0 || r.Right != nil {
			t.Errorf("the room behind a grammar's rules: %v", r)
		}
	}
}

func TestBuilderNamesAreNewMemory(t *testing.T) {
	text := strings.Repeat("name", 3)
	b := gram.NewBuilder()
	b.Term(text[:4])
	b.Nonterm(text[4:8])
	first, _ := b.Grammar()
	second, _ := b.Grammar()
	for _, name := range []string{first.Terms[0], first.Nonterms[0]} {
		if within(name, text) || within(name, second.Terms[0]) || within(name, second.Nonterms[0]) {
			t.Errorf("the name %q lies in a text that was handed in, or in another answer", name)
		}
	}
}

// tellNames tells names that are cut from a long text, and answers a pointer to the text that does not hold it.
func tellNames(b *gram.Builder) weak.Pointer[byte] {
	text := strings.Repeat("name", 1<<16)
	b.Term(text[:4])
	b.Nonterm(text[4:8])
	b.Term(text[:4])
	return weak.Make(unsafe.StringData(text))
}

func TestBuilderKeepsNoText(t *testing.T) {
	b := gram.NewBuilder()
	text := tellNames(b)
	runtime.GC()
	if text.Value() != nil {
		t.Error("the text that names were cut from is kept")
	}
	checkGrammar(t, "without the text", b, api.Grammar{Terms: []string{"name"}, Nonterms: []string{"name"}})
}

// TestBuilderExample is the last row of chapter 3's table.
func TestBuilderExample(t *testing.T) {
	b := gram.NewBuilder()
	if a, t1, t2 := b.Nonterm("A"), b.Term("t"), b.Term("t"); a != 0 || t1 != 0 || t2 != 0 {
		t.Errorf("numbers: %d, %d, %d", a, t1, t2)
	}
	b.Rule(0, 0)
	checkGrammar(t, "the example", b, api.Grammar{Terms: []string{"t"}, Nonterms: []string{"A"}, Rules: []api.Rule{rule(0, 0)}})
}
