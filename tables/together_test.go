package tables_test

import (
	"cmp"
	"math"
	"slices"
	"strings"
	"testing"
	"unsafe"

	"dovetail/api"
	"dovetail/gram"
	"dovetail/matrix"
	"dovetail/opform"
	"dovetail/precfun"
	"dovetail/probe"
	"dovetail/spec"
	"dovetail/tables"
)

// manyTexts are all short texts of some words, mixed ones, and such as many are read as grammars with tables.
func manyTexts() []string {
	list := probe.Texts(5, "S ", "a ", ": ", "| ", "\"S\" ", "\n")
	var n probe.Numbers
	for range 3000 {
		list = append(list, probe.MixedText(&n))
	}
	for _, g := range manyGrammars() {
		list = append(list, texted(g))
	}
	for _, g := range clearGrammars()[:200] {
		text := texted(g)
		list = append(list, text, text[:n.Below(1+len(text))], text+"\n: a")
	}
	return append(list, texted(pairs(24)), texted(pairs(25)), texted(stars(24)), strings.Repeat("S : a\n", 121), "S :"+strings.Repeat(" S", 33))
}

// P14.5

func TestCompileIsMakeOfWhatIsRead(t *testing.T) {
	counts := make(map[error]int)
	for _, text := range manyTexts() {
		x, err := tables.Compile(text)
		g, want := spec.Read(text)
		var y *tables.Tables
		if want == nil {
			y, want = tables.Make(g)
		}
		if probe.FaultOf(err) != probe.FaultOf(want) || (x == nil) != (err != nil) {
			t.Fatalf("Compile of %q: %v, want %v", text, err, want)
		}
		counts[probe.Which(err)]++
		if err == nil && (!x.Same(y) || !ask(x).same(ask(y)) || !ask(x).same(wanted(t, g))) {
			t.Fatalf("%q: %v, and %v", text, ask(x), ask(y))
		}
	}
	for which, least := range map[error]int{nil: 2000, api.ErrSyntax: 5000, api.ErrBounds: 2, api.ErrNotOperator: 1000, api.ErrMatrix: 1000, api.ErrTooBig: 1} {
		if counts[which] < least {
			t.Errorf("only %d: %v", counts[which], which)
		}
	}
}

// checkTablesOf wants tables of a grammar, or none.
func checkTablesOf(t *testing.T, g api.Grammar, want bool) {
	t.Helper()
	if x, err := tables.Make(g); (x != nil) != want || (err == nil) != want {
		t.Fatalf("Make of %v: %v, want tables: %v", g, err, want)
	}
}

func TestRulesInAnotherOrder(t *testing.T) {
	var n probe.Numbers
	for _, g := range slices.Concat(manyGrammars(), clearGrammars()) {
		x, _ := tables.Make(g)
		for range 3 {
			other := probe.Shuffled(g, &n)
			checkTablesOf(t, other, x != nil)
			if x == nil {
				continue
			}
			// But for the grammar all is the same.
			first, second := ask(x), ask(made(t, other))
			first.grammar = second.grammar
			if !first.same(second) {
				t.Fatalf("%v: %v, want %v", other, second, first)
			}
		}
	}
	for _, g := range []api.Grammar{pairs(24), pairs(25), with(pairs(24), probe.Rule(0, 1, 1)), stars(24)} {
		has := firstError(g) == nil
		slices.Reverse(g.Rules)
		checkTablesOf(t, g, has)
		for range 5 {
			checkTablesOf(t, probe.Shuffled(g, &n), has)
		}
	}
}

func TestOtherNames(t *testing.T) {
	names := func(g api.Grammar) []api.Grammar {
		strange := []string{"\x00", ":", "|", "\"", "#", "\n", " ", "\xff", "$", "-1", "0"}
		long := probe.Names(strings.Repeat("x", 30), 60)
		odd := probe.Names("\x00\xff", 60)
		var list []api.Grammar
		for _, from := range [][]string{append(strange, odd...), long, odd} {
			other := gram.Copy(g)
			// A terminal and a nonterminal may have one name.
			copy(other.Terms, from)
			copy(other.Nonterms, from)
			list = append(list, other)
		}
		return list
	}
	for _, g := range slices.Concat(manyGrammars()[:1500], clearGrammars(), []api.Grammar{pairs(24), pairs(25), stars(24)}) {
		x, err := tables.Make(g)
		for _, other := range names(g) {
			y, also := tables.Make(other)
			if probe.FaultOf(err) != probe.FaultOf(also) || (x == nil) != (y == nil) {
				t.Fatalf("%v: %v, with other names %v", g, err, also)
			}
			if x == nil {
				continue
			}
			first, second := ask(x), ask(y)
			first.grammar = other
			if !first.same(second) || x.Same(y) {
				t.Fatalf("%v: %v, want %v", other, second, first)
			}
		}
	}
}

// P14.6

// subset tells whether each relation of a matrix is one of another's.
func subset(few, many *matrix.Matrix) bool {
	for a := range few.Terms() {
		for b := range few.Terms() {
			for relation := api.Yields; relation <= api.Takes; relation++ {
				if few.Holds(a, b, relation) && !many.Holds(a, b, relation) {
					return false
				}
			}
		}
	}
	return few.Terms() == many.Terms()
}

func TestARuleLess(t *testing.T) {
	tried, fewer := 0, 0
	for _, g := range slices.Concat(manyGrammars(), clearGrammars()) {
		x, err := tables.Make(g)
		if err != nil {
			continue
		}
		for _, less := range probe.Lessened(g) {
			y, err := tables.Make(less)
			if err != nil {
				t.Fatalf("%v: %v, and with the rule more it has tables", less, err)
			}
			if !subset(y.Matrix(), x.Matrix()) {
				t.Fatalf("%v: the matrix %s, and with the rule more %s", less, drawn(y.Matrix()), drawn(x.Matrix()))
			}
			tried++
			if drawn(x.Matrix()) != drawn(y.Matrix()) {
				fewer++
			}
		}
	}
	if tried < 10000 || fewer < 4000 {
		t.Errorf("only %d, and %d have fewer relations", tried, fewer)
	}
}

// TestARuleLessMayBeTooBig: two letters are of one set, and without one of the rules of two: so the normal form has 600 rules, or 601, where it had 47 less.
func TestARuleLessMayBeTooBig(t *testing.T) {
	g := pairs(23)
	g.Terms = append(g.Terms, "t23")
	g.Rules = append(g.Rules, probe.Rule(1, 24), probe.Rule(2, 24))
	if n := checkMake(t, g).Normal(); len(n.Rules) != 553 || len(n.Sets) != 24 {
		t.Errorf("%d rules, %d sets", len(n.Rules), len(n.Sets))
	}
	less := g
	less.Rules = g.Rules[:len(g.Rules)-1]
	if n := checkMake(t, less).Normal(); len(n.Rules) != 600 || len(n.Sets) != 25 {
		t.Errorf("%d rules, %d sets", len(n.Rules), len(n.Sets))
	}
	more := probe.Rule(0, 1, 1)
	checkMake(t, with(g, more))
	checkRefused(t, with(less, more), probe.Bare(api.ErrTooBig))
}

// P1

// lists tells whether a fault is one that P1 lists, and tells just what it says there.
func lists(f probe.Fault) bool {
	switch f.Which {
	case api.ErrSyntax:
		return f.Place >= 0 && f.Rule == probe.None && !f.Paired
	case api.ErrBounds:
		return f.Place == probe.None && !f.Paired
	case api.ErrNotOperator:
		return f.Place == probe.None && f.Rule >= 0 && !f.Paired
	case api.ErrMatrix:
		return f.Place == probe.None && f.Rule == probe.None && f.Paired
	case api.ErrTooBig:
		return f.Place == probe.None && f.Rule == probe.None && !f.Paired
	}
	return false
}

// TestEveryTextIsRefusedOrHasTables: what is refused behind what is read is so by a fault that there is, and by none where there is none.
func TestEveryTextIsRefusedOrHasTables(t *testing.T) {
	for _, text := range manyTexts() {
		x, err := tables.Compile(text)
		f := probe.FaultOf(err)
		if err != nil && !lists(f) || (x == nil) != (err != nil) {
			t.Fatalf("%q: %v", text, err)
		}
		g, wrong := spec.Read(text)
		if (wrong != nil) != (f.Which == api.ErrSyntax || f.Which == api.ErrBounds) {
			t.Fatalf("%q: %v, and Read %v", text, err, wrong)
		}
		if wrong != nil {
			continue
		}
		faults := opform.Faults(g)
		if (len(faults) > 0) != (f.Which == api.ErrNotOperator) || len(faults) > 0 && faults[0].Rule != f.Rule {
			t.Fatalf("%q: %v, and the faults %v", text, err, faults)
		}
		m, _ := matrix.Of(g)
		p := f.Pair
		if f.Paired && (p.First >= p.Second || !m.Holds(p.A, p.B, p.First) || !m.Holds(p.A, p.B, p.Second)) {
			t.Fatalf("%q: %v, and the matrix %s", text, err, drawn(m))
		}
		if f.Which == nil && len(m.Clashes()) > 0 {
			t.Fatalf("%q: tables, and the clashes %v", text, m.Clashes())
		}
	}
}

func TestAnyBytes(t *testing.T) {
	var n probe.Numbers
	for range 5000 {
		text := make([]byte, n.Below(40))
		for k := range text {
			text[k] = byte(n.Below(256))
		}
		copy(text, n.One("", "S : ", "S : a ", "S : S ", "S : a S b | "))
		x, err := tables.Compile(string(text))
		if err != nil && !lists(probe.FaultOf(err)) || (x == nil) != (err != nil) {
			t.Fatalf("%q: %v", text, err)
		}
	}
	long := strings.Repeat("#", api.MaxText+1)
	checkTextRefused(t, long, atPlace(api.MaxText))
	checkTextRefused(t, "S : a\n"+long, atPlace(6+api.MaxText))
}

// P5

// relations are all that tables tell, as numbers of two terminals and the relation.
func relations(x *tables.Tables) [][3]int {
	var list [][3]int
	for a := range x.Terms() + 1 {
		for b := range x.Terms() + 1 {
			if r := x.Relation(a, b); r != api.None {
				list = append(list, [3]int{a, b, r})
			}
		}
	}
	return list
}

// says tells whether two numbers say a relation.
func says(f, g, relation int) bool { return cmp.Compare(f, g) == relation-api.Equal }

// anyFit tells whether there are any f and g that say all relations: from 0 on each one that is too low is raised. None has to be above how many numbers there are.
func anyFit(x *tables.Tables) bool {
	n := x.Terms() + 1
	numbers := make([]int, 2*n)
	list := relations(x)
	for grown := true; grown; {
		grown = false
		for _, r := range list {
			f, g := &numbers[r[0]], &numbers[n+r[1]]
			before := *f + *g
			if r[2] != api.Yields {
				*f = max(*f, *g+r[2]-api.Equal)
			}
			if r[2] != api.Takes {
				*g = max(*g, *f+api.Equal-r[2])
			}
			grown = grown || *f+*g > before
		}
		if slices.Max(numbers) > len(numbers) {
			return false
		}
	}
	return true
}

func TestFunctionsOrACycle(t *testing.T) {
	fit, cycles := 0, 0
	for _, g := range slices.Concat(manyGrammars(), smallGrammars(), clearGrammars()) {
		x, err := tables.Make(g)
		if err != nil {
			continue
		}
		f := x.Functions()
		if len(f.Cycle) > 0 {
			cycles++
			if len(f.F)+len(f.G) > 0 || anyFit(x) {
				t.Fatalf("%v: %v, and numbers that fit", g, f)
			}
			continue
		}
		fit++
		if len(f.F) != x.Terms()+1 || len(f.G) != x.Terms()+1 || !precfun.Fits(x.Matrix(), f.F, f.G) {
			t.Fatalf("%v: %v", g, f)
		}
		for _, r := range relations(x) {
			if !says(f.F[r[0]], f.G[r[1]], r[2]) {
				t.Fatalf("%v: %v, and the relation %v", g, f, r)
			}
		}
	}
	if fit < 5000 || cycles < 200 {
		t.Errorf("only %d have functions, %d a cycle", fit, cycles)
	}
}

// P14.7

func (a told) lists() [][]int {
	list := [][]int{a.starts, a.functions.F, a.functions.G, a.functions.Classes, a.functions.Cycle}
	for _, r := range slices.Concat(a.grammar.Rules, a.normal.Rules) {
		list = append(list, r.Right)
	}
	return list
}

// spoil overwrites all that was told, with the room behind it.
func (a told) spoil() {
	for _, list := range a.lists() {
		list = list[:cap(list)]
		for k := range list {
			list[k] = 99
		}
	}
	clear(a.grammar.Terms[:cap(a.grammar.Terms)])
	clear(a.grammar.Nonterms[:cap(a.grammar.Nonterms)])
	clear(a.grammar.Rules[:cap(a.grammar.Rules)])
	clear(a.normal.Sets[:cap(a.normal.Sets)])
	clear(a.normal.Rules[:cap(a.normal.Rules)])
	*a.matrix = matrix.Matrix{}
}

func TestAnswersAreNewMemory(t *testing.T) {
	for _, g := range slices.Concat(manyGrammars()[:1000], clearGrammars()[:500], clearGrammars()[1500:], []api.Grammar{pairs(24), probe.Read(ring)}) {
		if firstError(g) != nil {
			continue
		}
		x, y := made(t, g), made(t, g)
		want := wanted(t, g)
		a, b, c := ask(x), ask(x), ask(y)
		if !probe.Apart(slices.Concat(a.lists(), b.lists(), c.lists())...) || !probe.GrammarsApart(g, a.grammar, b.grammar, c.grammar) {
			t.Fatalf("lists of %v share memory", g)
		}
		if !probe.Apart(a.normal.Rules, b.normal.Rules, c.normal.Rules, a.grammar.Rules) || !probe.Apart(a.normal.Sets, b.normal.Sets, c.normal.Sets) {
			t.Fatalf("normal forms of %v share memory", g)
		}
		if a.matrix == b.matrix || a.matrix == c.matrix {
			t.Fatalf("one matrix of %v is told twice", g)
		}
		a.spoil()
		if !b.same(want) || !c.same(want) || !ask(x).same(want) || !ask(y).same(want) || !x.Same(y) {
			t.Fatalf("%v: %v, and later %v", g, want, ask(x))
		}
		checkNumbers(t, x, want)
	}
}

func TestNothingIsChanged(t *testing.T) {
	for _, g := range slices.Concat(manyGrammars()[:1500], clearGrammars(), []api.Grammar{pairs(24), pairs(25), stars(24), {}, {Nonterms: []string{"S"}, Axiom: 1}}) {
		g = probe.Roomy(g)
		before := gram.Copy(probe.Whole(g))
		x, _ := tables.Make(g)
		if !gram.Same(before, probe.Whole(g)) {
			t.Fatalf("%v is changed to %v", before, probe.Whole(g))
		}
		for _, right := range sidesAbout(x.Normal()) {
			roomy := append(slices.Clone(right), math.MaxInt)
			x.Find(roomy[:len(right)])
			if !slices.Equal(roomy, append(slices.Clone(right), math.MaxInt)) {
				t.Fatalf("%v is changed to %v", right, roomy)
			}
		}
	}
}

// TestNothingIsKept: a later change of what was handed in is seen by the next call, and not in tables that there are.
func TestNothingIsKept(t *testing.T) {
	for _, g := range slices.Concat(manyGrammars()[:1500], clearGrammars()[:300]) {
		if firstError(g) != nil {
			continue
		}
		other := gram.Copy(g)
		x := made(t, other)
		want := wanted(t, g)
		for n := range other.Rules {
			for at := range other.Rules[n].Right {
				other.Rules[n].Right[at] = 0
			}
			other.Rules[n].Left = 0
		}
		clear(other.Terms)
		clear(other.Nonterms)
		if !ask(x).same(want) || !x.Same(made(t, g)) {
			t.Fatalf("%v: %v, and later %v", g, want, ask(x))
		}
		checkNumbers(t, x, want)
	}
}

// within tells whether a text's bytes are a piece of another one's.
func within(s, text string) bool {
	at, from := uintptr(unsafe.Pointer(unsafe.StringData(s))), uintptr(unsafe.Pointer(unsafe.StringData(text)))
	return at >= from && at < from+uintptr(len(text))
}

// TestNamesAreNewMemory: no name holds the text that it was cut from, neither of those that are kept nor of those that are told.
func TestNamesAreNewMemory(t *testing.T) {
	text := strings.Clone(lines(plus))
	first, err := tables.Compile(text)
	if err != nil {
		t.Fatal(err)
	}
	cut := strings.Repeat("name", 3)
	g := api.Grammar{Terms: []string{cut[:4]}, Nonterms: []string{cut[4:9]}}
	second := made(t, g)
	for _, of := range []api.Grammar{first.Grammar(), second.Grammar()} {
		for _, name := range slices.Concat(of.Terms, of.Nonterms) {
			if within(name, text) || within(name, cut) {
				t.Errorf("the name %q lies in a text", name)
			}
		}
	}
}

// Errors are new, too: one that was changed isn't told again.
func TestErrorsAreNewMemory(t *testing.T) {
	for _, text := range []string{"S", "S : S S", two, "S :" + strings.Repeat(" a", 33)} {
		_, first := tables.Compile(text)
		_, second := tables.Compile(text)
		if first == second {
			t.Errorf("two errors of %q are one", text)
		}
	}
}

// P0.3

func TestRefusedCallsChangeNothing(t *testing.T) {
	x := compiled(t, plus)
	want := wanted(t, probe.Read(plus))
	for _, text := range []string{"", "S", "S : S S", two, "S :" + strings.Repeat(" a", 33), texted(pairs(25)), texted(stars(24))} {
		if y, err := tables.Compile(text); err == nil || y != nil {
			t.Errorf("Compile of %.60q: %v", text, err)
		}
		if !ask(x).same(want) {
			t.Fatalf("behind %.60q: %v", text, ask(x))
		}
		checkNumbers(t, x, want)
	}
}
