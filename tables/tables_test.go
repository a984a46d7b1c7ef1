package tables_test

import (
	"math"
	"reflect"
	"slices"
	"strings"
	"testing"

	"dovetail/api"
	"dovetail/gram"
	"dovetail/precfun"
	"dovetail/probe"
	"dovetail/spec"
	"dovetail/tables"
)

// The grammars of the page's examples.
const (
	plus = "E : E + T | T; T : i"
	nest = "S : a S b | a b"
	two  = "E : E + E | i"
	ring = "S : c B | a D | P b | Q d; B : b; D : d; P : a; Q : c"
)

// lines is a text whose lines are parted by ; here.
func lines(text string) string { return strings.ReplaceAll(text, ";", "\n") }

// compiled are the tables of a text that has them.
func compiled(t *testing.T, text string) *tables.Tables {
	t.Helper()
	x, err := tables.Compile(lines(text))
	if err != nil || x == nil {
		t.Fatalf("Compile of %q: %v", text, err)
	}
	return x
}

// made are the tables of a grammar that has them.
func made(t *testing.T, g api.Grammar) *tables.Tables {
	t.Helper()
	x, err := tables.Make(g)
	if err != nil || x == nil {
		t.Fatalf("Make of %v: %v", g, err)
	}
	return x
}

// checkRefused wants an error of Make that tells just this, and no tables.
func checkRefused(t *testing.T, g api.Grammar, want probe.Fault) {
	t.Helper()
	if x, err := tables.Make(g); probe.FaultOf(err) != want || x != nil {
		t.Errorf("Make of %v: %v, want %v", g, err, want)
	}
}

// checkTextRefused wants the same of Compile.
func checkTextRefused(t *testing.T, text string, want probe.Fault) {
	t.Helper()
	if x, err := tables.Compile(text); probe.FaultOf(err) != want || x != nil {
		t.Errorf("Compile of %.60q: %v, want %v", text, err, want)
	}
}

// What an error is to tell, and nothing else.
func atPlace(place int) probe.Fault { return probe.AtPlace(api.ErrSyntax, place) }

func between(a, b, first, second int) probe.Fault {
	f := probe.Bare(api.ErrMatrix)
	f.Pair, f.Paired = api.Pair{A: a, B: b, First: first, Second: second}, true
	return f
}

// P14.1

func TestCompile(t *testing.T) {
	cases := []struct {
		text   string
		matrix string
		normal api.Normal
		starts []int
	}{
		{plus, "> < >; > . >; < < .", api.Normal{Sets: []api.Set{1, 3}, Rules: []api.Rule{probe.Rule(0, -2, 0, -2), probe.Rule(0, -1, 0, -2), probe.Rule(1, 1)}}, []int{0, 1}},
		{nest, "< = .; . > >; < . .", api.Normal{Sets: []api.Set{1}, Rules: []api.Rule{probe.Rule(0, 0, -1, 1), probe.Rule(0, 0, 1)}}, []int{0}},
		{"S : a; A : b; B : A c", ". . . >; . . > .; . . . .; < . . .", api.Normal{Sets: []api.Set{1, 2, 4}, Rules: []api.Rule{probe.Rule(2, -2, 2), probe.Rule(0, 0), probe.Rule(1, 1)}}, []int{0}},
		{"S : A b; A : a | S", "> . >; > . .; < < .", api.Normal{Sets: []api.Set{2, 3}, Rules: []api.Rule{probe.Rule(1, -2, 0), probe.Rule(1, -1, 0), probe.Rule(0, 1)}}, []int{1}},
		// A grammar that derives nothing has tables, too; and one without terminals.
		{"S : a S", "< >; < .", api.Normal{}, nil},
		{"S : S", ".", api.Normal{}, nil},
		{"S : T; T : a", ". >; < .", api.Normal{Sets: []api.Set{3}, Rules: []api.Rule{probe.Rule(0, 0)}}, []int{0}},
		{"S : T a; T : T b; U : b", ". . >; > > .; < < .", api.Normal{Sets: []api.Set{4}, Rules: []api.Rule{probe.Rule(0, 1)}}, nil},
	}
	for _, c := range cases {
		x := compiled(t, c.text)
		if got := drawn(x.Matrix()); got != c.matrix {
			t.Errorf("%s: the matrix %s, want %s", c.text, got, c.matrix)
		}
		if !sameNormal(x.Normal(), c.normal) || !slices.Equal(x.Starts(), c.starts) {
			t.Errorf("%s: %v, it starts at %v, want %v, %v", c.text, x.Normal(), x.Starts(), c.normal, c.starts)
		}
		if g := probe.Read(c.text); !gram.Same(x.Grammar(), g) || x.Terms() != len(g.Terms) {
			t.Errorf("%s: %v, %d terminals", c.text, x.Grammar(), x.Terms())
		}
	}
}

// TestMakeOfGrammarsThatNoTextHas: without rules, with another axiom, with terminals and nonterminals that stand nowhere, with names of any bytes.
func TestMakeOfGrammarsThatNoTextHas(t *testing.T) {
	checkMake(t, api.Grammar{Nonterms: []string{"S"}})
	checkMake(t, api.Grammar{Terms: []string{"S", "\x00"}, Nonterms: []string{"S", "\n"}})
	checkMake(t, api.Grammar{Terms: []string{"a", "b"}, Nonterms: []string{"S"}, Rules: []api.Rule{probe.Rule(0, 1), probe.Rule(0, 1)}})
	g := probe.Read("S : a T b; T : c U d; U : e")
	for g.Axiom = range g.Nonterms {
		x := checkMake(t, g)
		if !slices.Equal(x.Starts(), []int{g.Axiom}) {
			t.Errorf("of the axiom %d it starts at %v", g.Axiom, x.Starts())
		}
	}
	if x := made(t, api.Grammar{Nonterms: []string{"S"}}); x.Terms() != 0 || x.Relation(0, 0) != api.None || len(x.Normal().Sets) != 0 {
		t.Errorf("of no rules: %v", ask(x))
	}
}

func TestMakeOfManyGrammars(t *testing.T) {
	counts := make(map[error]int)
	for _, g := range slices.Concat(manyGrammars(), smallGrammars()) {
		if x := checkMake(t, g); x != nil {
			counts[nil]++
			continue
		}
		counts[probe.Which(firstError(g))]++
	}
	for _, which := range []error{nil, api.ErrNotOperator, api.ErrMatrix} {
		if counts[which] < 2000 {
			t.Errorf("only %d: %v", counts[which], which)
		}
	}
}

func TestMakeOfGrammarsWithoutClash(t *testing.T) {
	many, cycles := 0, 0
	for _, g := range clearGrammars() {
		x := checkMake(t, g)
		if x == nil {
			t.Fatalf("%v has no tables", g)
		}
		if len(x.Normal().Sets) > 1 {
			many++
		}
		if len(x.Functions().Cycle) > 0 {
			cycles++
		}
	}
	if many < 500 || cycles < 200 {
		t.Errorf("only %d have several sets, %d a cycle", many, cycles)
	}
}

func TestTextsThatAreRefused(t *testing.T) {
	sum := func(names ...string) string { return strings.Join(names, " ") }
	cases := []struct {
		text string
		want probe.Fault
	}{
		{"", atPlace(0)},
		{"# none", atPlace(6)},
		{"S", atPlace(1)},
		{"| a", atPlace(0)},
		{"S : a : b", atPlace(6)},
		{"S : a\nT", atPlace(7)},
		{"S : \"", atPlace(5)},
		{"S : " + sum(probe.Names("t", 33)...), probe.InRule(api.ErrBounds, 0)},
		{"S : a | " + sum(probe.Names("t", 33)...), probe.InRule(api.ErrBounds, 1)},
		{"S : a" + strings.Repeat(" | a", 120), probe.Bare(api.ErrBounds)},
		{"S : " + sum(probe.Names("t", 30)...) + " | " + sum(probe.Names("u", 30)...), probe.Bare(api.ErrBounds)},
		{"S : S S", probe.InRule(api.ErrNotOperator, 0)},
		{"S :", probe.InRule(api.ErrNotOperator, 0)},
		{"S : a |", probe.InRule(api.ErrNotOperator, 1)},
		{"S : a | a S b\nT : a S S | S T", probe.InRule(api.ErrNotOperator, 2)},
		{"E : E + E | i", between(0, 0, api.Yields, api.Takes)},
		{"S : a S a | b", between(0, 0, api.Yields, api.Equal)},
		{"S : S a a | b", between(0, 0, api.Equal, api.Takes)},
		{"S : a | S b S", between(1, 1, api.Yields, api.Takes)},
		{"S : a | S b S | b b", between(1, 1, api.Yields, api.Equal)},
		{"S : a | S b S | a T\nT : a | a a", between(0, 0, api.Yields, api.Equal)},
		{"S : a b\nT : b T T T | T", probe.InRule(api.ErrNotOperator, 1)},
		{"S : a b\nT : b T b | T", between(1, 1, api.Yields, api.Equal)},
	}
	for _, c := range cases {
		checkTextRefused(t, c.text, c.want)
	}
}

// TestTheFirstErrorOfATextIsTold: each text has all faults that stand behind its own.
func TestTheFirstErrorOfATextIsTold(t *testing.T) {
	big := texted(stars(24))
	clash := between(0, 0, api.Yields, api.Takes)
	checkTextRefused(t, big, clash)
	rules := strings.Count(big, "\n")
	operator := big + "S : S S\n"
	checkTextRefused(t, operator, probe.InRule(api.ErrNotOperator, rules))
	checkTextRefused(t, "S :\n"+operator, probe.InRule(api.ErrNotOperator, 0))
	bounds := operator + "S :" + strings.Repeat(" S", 33) + "\n"
	checkTextRefused(t, bounds, probe.InRule(api.ErrBounds, rules+1))
	checkTextRefused(t, bounds+strings.Repeat("S :\n", 120), probe.Bare(api.ErrBounds))
	checkTextRefused(t, bounds+"S", atPlace(len(bounds)+1))
	checkTextRefused(t, "S\n"+bounds, atPlace(1))
}

// texted is a text of a grammar's rules, each on a line of its own, whose names must be plain.
func texted(g api.Grammar) string {
	var text strings.Builder
	for _, r := range g.Rules {
		text.WriteString(g.Nonterms[r.Left] + " :")
		for _, symbol := range r.Right {
			name, _ := gram.Name(g, symbol)
			text.WriteString(" " + name)
		}
		text.WriteString("\n")
	}
	return text.String()
}

// stars is a grammar whose + yields to itself and takes itself, with a normal form of n + (n + 1) * (n + 1) rules: so many letters, each in a set of its own with S, and S of two of S with a + between.
func stars(letters int) api.Grammar {
	g := api.Grammar{Terms: append([]string{"+"}, probe.Names("t", letters)...), Nonterms: append([]string{"S"}, probe.Names("N", letters)...)}
	g.Rules = append(g.Rules, probe.Rule(0, -1, 0, -1))
	for n := 1; n <= letters; n++ {
		g.Rules = append(g.Rules, probe.Rule(n, n), probe.Rule(0, -1-n))
	}
	return g
}

// pairs is a grammar without a clash whose normal form has n + n * n rules: so many letters, each in a set of its own with A, and S of two of A with a + between.
func pairs(letters int) api.Grammar {
	g := api.Grammar{Terms: append([]string{"+"}, probe.Names("t", letters)...), Nonterms: append([]string{"S", "A"}, probe.Names("N", letters)...)}
	g.Rules = append(g.Rules, probe.Rule(0, -2, 0, -2))
	for n := 1; n <= letters; n++ {
		g.Rules = append(g.Rules, probe.Rule(n+1, n), probe.Rule(1, -2-n))
	}
	return g
}

// with is a grammar with rules more.
func with(g api.Grammar, rules ...api.Rule) api.Grammar {
	g.Rules = append(slices.Clone(g.Rules), rules...)
	return g
}

func TestTooBig(t *testing.T) {
	for _, letters := range []int{1, 2, 23, 24} {
		x := checkMake(t, pairs(letters))
		if n := x.Normal(); len(n.Rules) != letters*(letters+1) || len(n.Sets) != letters+1 {
			t.Errorf("%d letters: %d rules, %d sets", letters, len(n.Rules), len(n.Sets))
		}
	}
	// At the bound of 600, and beyond it by one.
	checkRefused(t, with(pairs(24), probe.Rule(0, 1, 1)), probe.Bare(api.ErrTooBig))
	checkRefused(t, with(pairs(24), probe.Rule(0, 0, 0)), probe.Bare(api.ErrTooBig))
	checkRefused(t, pairs(25), probe.Bare(api.ErrTooBig))
	checkTextRefused(t, texted(pairs(25)), probe.Bare(api.ErrTooBig))
	// A clash and what is no operator form go ahead.
	checkRefused(t, stars(24), between(0, 0, api.Yields, api.Takes))
	checkRefused(t, with(pairs(25), probe.Rule(0, 25, -1, 25)), between(0, 25, api.Yields, api.Takes))
	checkRefused(t, with(pairs(25), probe.Rule(0)), probe.InRule(api.ErrNotOperator, 51))
	checkRefused(t, with(pairs(25), probe.Rule(0), probe.Rule(0, 25, -1, 25)), probe.InRule(api.ErrNotOperator, 51))
}

// TestGrammarsThatMayNotBe: what layer 3 tells goes ahead of all, in whichever rule it is.
func TestGrammarsThatMayNotBe(t *testing.T) {
	clash := probe.Read(two)
	for _, g := range []api.Grammar{probe.Read(nest), clash, with(clash, probe.Rule(0), probe.Rule(0, -1, -1)), with(probe.Read(nest), probe.Rule(0)), stars(24), with(pairs(25), probe.Rule(0, -1, -1))} {
		for _, w := range probe.Wrongs(g) {
			x, err := tables.Make(w.Grammar)
			if want := gram.Check(w.Grammar); want == nil || probe.FaultOf(err) != probe.FaultOf(want) || x != nil {
				t.Errorf("%s: %v, want %v", w.What, err, want)
			}
		}
	}
	checkRefused(t, api.Grammar{}, probe.Bare(api.ErrArg))
	checkRefused(t, with(clash, probe.Rule(0), probe.Rule(1)), probe.InRule(api.ErrArg, 3))
}

// P14.2

func TestRelation(t *testing.T) {
	x := compiled(t, nest)
	want := [][]int{{api.Yields, api.Equal, api.None}, {api.None, api.Takes, api.Takes}, {api.Yields, api.None, api.None}}
	for a, row := range want {
		for b, relation := range row {
			if x.Relation(a, b) != relation {
				t.Errorf("Relation of %d and %d: %d", a, b, x.Relation(a, b))
			}
		}
	}
	for _, no := range []int{-1, 3, 4, 60, 63, 64, 65, -60, -64, math.MaxInt, math.MinInt} {
		for k := range 3 {
			if x.Relation(no, k) != api.None || x.Relation(k, no) != api.None || x.Relation(no, no) != api.None {
				t.Errorf("Relation of %d and %d", no, k)
			}
		}
	}
}

func checkFound(t *testing.T, x *tables.Tables, want int, right ...int) {
	t.Helper()
	if rule, ok := x.Find(right); rule != want || !ok {
		t.Errorf("Find of %v: %d, %v, want %d", right, rule, ok, want)
	}
}

func checkNotFound(t *testing.T, x *tables.Tables, right ...int) {
	t.Helper()
	if rule, ok := x.Find(right); rule != 0 || ok {
		t.Errorf("Find of %v: %d, %v", right, rule, ok)
	}
}

func TestFindAndLeft(t *testing.T) {
	x := compiled(t, "E : E + T | T; T : ( E ) | i")
	for rule, r := range []api.Rule{probe.Rule(0, -2, 0, -2), probe.Rule(0, -1, 0, -2), probe.Rule(1, 1, -2, 2), probe.Rule(1, 1, -1, 2), probe.Rule(1, 3)} {
		checkFound(t, x, rule, r.Right...)
		if left, ok := x.Left(rule); left != r.Left || !ok {
			t.Errorf("Left of %d: %d, %v", rule, left, ok)
		}
	}
	checkNotFound(t, x)
	checkNotFound(t, x, -1)
	checkNotFound(t, x, -2)
	checkNotFound(t, x, 0)
	checkNotFound(t, x, -1, 0)
	checkNotFound(t, x, -1, 0, -1)
	checkNotFound(t, x, -2, 0, -1)
	checkNotFound(t, x, -2, 0, -2, 0)
	checkNotFound(t, x, 1, 2)
	checkNotFound(t, x, 1, -3, 2)
	checkNotFound(t, x, 3, 3)
	checkNotFound(t, x, 4)
	checkNotFound(t, x, math.MaxInt)
	checkNotFound(t, x, math.MinInt)
	checkNotFound(t, x, make([]int, 100000)...)
	for _, no := range []int{-1, 5, 6, 600, math.MaxInt, math.MinInt} {
		if left, ok := x.Left(no); left != 0 || ok {
			t.Errorf("Left of %d: %d, %v", no, left, ok)
		}
	}
}

func TestStart(t *testing.T) {
	// The sets are of A alone, S and A, B alone.
	x := compiled(t, "S : A b; A : a | S; B : b a")
	if n := x.Normal(); !slices.Equal(n.Sets, []api.Set{2, 3, 4}) {
		t.Fatalf("the sets %v", n.Sets)
	}
	for set, want := range map[int]bool{-1: false, 0: false, 1: true, 2: false, 3: false, 64: false, 65: false, -64: false, math.MaxInt: false, math.MinInt: false} {
		if x.Start(set) != want {
			t.Errorf("Start of %d: %v", set, x.Start(set))
		}
	}
}

func TestFunctions(t *testing.T) {
	cases := []struct {
		text string
		want precfun.Functions
	}{
		{plus, precfun.Functions{F: []int{2, 2, 0}, G: []int{1, 3, 0}, Classes: probe.UpTo(6)}},
		{nest, precfun.Functions{F: []int{0, 1, 0}, G: []int{1, 0, 0}, Classes: []int{0, 1, 2, 3, 0, 4}}},
		{ring, precfun.Functions{Classes: probe.UpTo(10), Cycle: []int{0, 8, 1, 7}}},
	}
	for _, c := range cases {
		if got := compiled(t, c.text).Functions(); !sameFunctions(got, c.want) {
			t.Errorf("%s: %v, want %v", c.text, got, c.want)
		}
	}
}

// P14.3

// others are forms of a grammar that has tables, each another one by one thing alone; all have tables, too.
func others(g api.Grammar) []api.Grammar {
	var list []api.Grammar
	add := func(turn func(g *api.Grammar)) {
		other := gram.Copy(g)
		turn(&other)
		list = append(list, other)
	}
	add(func(g *api.Grammar) { g.Terms[1] = "another" })
	add(func(g *api.Grammar) { g.Terms = append(g.Terms, "more") })
	add(func(g *api.Grammar) { g.Nonterms[0] = "another" })
	add(func(g *api.Grammar) { g.Nonterms = append(g.Nonterms, "more") })
	add(func(g *api.Grammar) { g.Axiom = 1 })
	add(func(g *api.Grammar) { g.Rules[0], g.Rules[1] = g.Rules[1], g.Rules[0] })
	add(func(g *api.Grammar) { g.Rules = append(g.Rules, g.Rules[0]) })
	add(func(g *api.Grammar) { g.Rules = g.Rules[:len(g.Rules)-1] })
	add(func(g *api.Grammar) { g.Rules[2].Left = 0 })
	add(func(g *api.Grammar) { g.Rules[2].Right = append(g.Rules[2].Right, 1) })
	add(func(g *api.Grammar) { g.Rules[2].Right[0] = 2 })
	add(func(g *api.Grammar) { g.Rules = nil })
	return list
}

func TestSame(t *testing.T) {
	const text = "E : E + T | T; T : i | j"
	g := probe.Read(text)
	x := made(t, g)
	for _, y := range []*tables.Tables{x, made(t, g), made(t, gram.Copy(g)), made(t, x.Grammar()), compiled(t, text), compiled(t, "E : E \"+\" T # sums;| T;;T : i;| j"), compiled(t, "E : E + T;E : T;T : i;T : j;")} {
		if !x.Same(y) || !y.Same(x) {
			t.Errorf("%v is not the Same", y.Grammar())
		}
	}
	list := []*tables.Tables{nil, x, new(tables.Tables)}
	for _, other := range others(g) {
		list = append(list, made(t, other))
	}
	for a, first := range list {
		for b, second := range list {
			if first.Same(second) != (a == b) {
				t.Errorf("Same of %v and %v: %v", first.Grammar(), second.Grammar(), a != b)
			}
		}
	}
}

// TestSameOfEqualTables: another grammar may have all the same tables, and is another one.
func TestSameOfEqualTables(t *testing.T) {
	a, b := compiled(t, "S : a S b | a b"), compiled(t, "S : a b | a S b")
	first, second := ask(a), ask(b)
	second.grammar = first.grammar
	if !first.same(second) || a.Same(b) {
		t.Error("rules in another order")
	}
}

// P14.4

func TestNilTables(t *testing.T) {
	var none *tables.Tables
	for _, x := range []*tables.Tables{nil, none, new(tables.Tables)} {
		g, n, f := x.Grammar(), x.Normal(), x.Functions()
		if len(g.Terms)+len(g.Nonterms)+len(g.Rules)+g.Axiom != 0 || len(n.Sets)+len(n.Rules) != 0 || len(f.F)+len(f.G)+len(f.Classes)+len(f.Cycle) != 0 {
			t.Errorf("%v, %v, %v", g, n, f)
		}
		if x.Terms() != 0 || len(x.Starts()) != 0 || x.Matrix() != nil {
			t.Errorf("%d, %v, %v", x.Terms(), x.Starts(), x.Matrix())
		}
		for _, a := range about(2) {
			for _, b := range about(2) {
				if x.Relation(a, b) != api.None {
					t.Errorf("Relation of %d and %d", a, b)
				}
				checkNotFound(t, x, a, b)
			}
			checkNotFound(t, x, a)
			if left, ok := x.Left(a); left != 0 || ok || x.Start(a) {
				t.Errorf("Left, Start of %d", a)
			}
		}
		checkNotFound(t, x)
	}
	if !none.Same(nil) || !none.Same(none) || none.Same(compiled(t, plus)) || none.Same(new(tables.Tables)) || new(tables.Tables).Same(nil) || !new(tables.Tables).Same(new(tables.Tables)) {
		t.Error("Same")
	}
}

// TestNoOtherCalls: what finds right sides is embedded, and hands out no call of its own.
func TestNoOtherCalls(t *testing.T) {
	calls := []string{"Find", "Functions", "Grammar", "Left", "Matrix", "Normal", "Relation", "Same", "Start", "Starts", "Terms"}
	var got []string
	for m := range reflect.TypeFor[*tables.Tables]().Methods() {
		got = append(got, m.Name)
	}
	if !slices.Equal(got, calls) {
		t.Errorf("the calls %v, want %v", got, calls)
	}
}

// TestExamples is the table of chapter 14, and what the page's examples tell of tables.
func TestExamples(t *testing.T) {
	x := compiled(t, plus)
	if x.Terms() != 2 || !slices.Equal(x.Starts(), []int{0, 1}) || x.Relation(1, 0) != api.Takes || x.Relation(2, 1) != api.Yields || x.Relation(1, 1) != api.None {
		t.Errorf("Compile: %d, %v", x.Terms(), x.Starts())
	}
	checkFound(t, x, 2, 1)
	if left, ok := x.Left(2); left != 1 || !ok || !x.Start(0) {
		t.Errorf("Left: %d, %v", left, ok)
	}
	if f := x.Functions(); !slices.Equal(f.F, []int{2, 2, 0}) || !slices.Equal(f.G, []int{1, 3, 0}) {
		t.Errorf("Functions: %v", f)
	}
	checkTextRefused(t, "S : S S", probe.InRule(api.ErrNotOperator, 0))
	checkTextRefused(t, two, between(0, 0, api.Yields, api.Takes))
	checkTextRefused(t, "S", atPlace(1))
	checkTextRefused(t, "", atPlace(0))
	if g, _ := spec.Read(lines(plus)); !made(t, g).Same(x) {
		t.Error("Make")
	}
	checkTextRefused(t, "S : "+strings.Join(probe.Names("t", 33), " "), probe.InRule(api.ErrBounds, 0))
	checkTextRefused(t, strings.Repeat("S : a\n", 121), probe.Bare(api.ErrBounds))
	if f := compiled(t, ring).Functions(); len(f.Cycle) != 4 || len(f.F)+len(f.G) > 0 {
		t.Errorf("%s: %v", ring, f)
	}
	if m := compiled(t, nest).Matrix(); !slices.Equal(m.Pack(), []byte{9, 31, 0}) {
		t.Errorf("Matrix: %s", drawn(m))
	}
}
