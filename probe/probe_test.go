package probe_test

import (
	"errors"
	"math"
	"slices"
	"strings"
	"testing"

	"dovetail/api"
	"dovetail/gram"
	"dovetail/matrix"
	"dovetail/opform"
	"dovetail/probe"
	"dovetail/spec"
)

func TestWhich(t *testing.T) {
	wrapped := &api.PlaceError{At: 7, Err: &api.RuleError{Rule: 3, Err: api.ErrForm}}
	paired := &api.PairError{Pair: api.Pair{A: 1, B: 2, First: 3}, Err: api.ErrMatrix}
	cases := []struct {
		err, want   error
		rule, place int
	}{
		{nil, nil, probe.None, probe.None},
		{api.ErrArg, api.ErrArg, probe.None, probe.None},
		{api.ErrNone, api.ErrNone, probe.None, probe.None},
		{&api.RuleError{Err: api.ErrBounds}, api.ErrBounds, 0, probe.None},
		{&api.PlaceError{Err: api.ErrSyntax}, api.ErrSyntax, probe.None, 0},
		{wrapped, api.ErrForm, 3, 7},
		{paired, api.ErrMatrix, probe.None, probe.None},
	}
	for _, c := range cases {
		if which, rule, place := probe.Which(c.err), probe.RuleOf(c.err), probe.PlaceOf(c.err); which != c.want || rule != c.rule || place != c.place {
			t.Errorf("%v: %v, rule %d, place %d", c.err, which, rule, place)
		}
		if pair, ok := probe.PairOf(c.err); ok != (c.err == error(paired)) || ok && pair != paired.Pair {
			t.Errorf("%v: pair %v %v", c.err, pair, ok)
		}
	}
}

func TestWhichOfNoneAndOfSeveral(t *testing.T) {
	for _, err := range []error{errors.New("another"), errors.Join(api.ErrArg, api.ErrNone), errors.Join(api.ErrName, api.ErrCut, api.ErrSum)} {
		which := probe.Which(err)
		if which == nil {
			t.Errorf("%v: nil", err)
		}
		for _, e := range []error{api.ErrArg, api.ErrNone, api.ErrName, api.ErrCut, api.ErrSum} {
			if errors.Is(which, e) {
				t.Errorf("%v: %v", err, which)
			}
		}
	}
}

func TestFaultOf(t *testing.T) {
	pair := api.Pair{A: 1, B: 2, First: 3}
	cases := []struct {
		err  error
		want probe.Fault
	}{
		{nil, probe.Bare(nil)},
		{api.ErrLong, probe.Bare(api.ErrLong)},
		{&api.PlaceError{Err: api.ErrName}, probe.AtPlace(api.ErrName, 0)},
		{&api.RuleError{Err: api.ErrBounds}, probe.InRule(api.ErrBounds, 0)},
		{&api.PairError{Err: api.ErrMatrix}, probe.Fault{Which: api.ErrMatrix, Place: probe.None, Rule: probe.None, Paired: true}},
		{&api.PlaceError{At: 7, Err: &api.RuleError{Rule: 3, Err: &api.PairError{Pair: pair, Err: api.ErrForm}}}, probe.Fault{Which: api.ErrForm, Place: 7, Rule: 3, Pair: pair, Paired: true}},
	}
	for n, c := range cases {
		for m, other := range cases {
			if same := probe.FaultOf(c.err) == other.want; same != (n == m) {
				t.Errorf("%v is %v: %v", c.err, other.want, same)
			}
		}
	}
}

func TestNumbersComeAgain(t *testing.T) {
	var first, second probe.Numbers
	seen := make([]int, 5)
	for range 500 {
		n := first.Below(5)
		if n != second.Below(5) || n < 0 || n > 4 {
			t.Fatalf("the number %d", n)
		}
		seen[n]++
	}
	if slices.Min(seen) < 50 {
		t.Errorf("how often each number came: %v", seen)
	}
}

func TestOrder(t *testing.T) {
	var first, second probe.Numbers
	mixed := 0
	for size := range 40 {
		order := first.Order(size)
		if !slices.Equal(order, second.Order(size)) {
			t.Errorf("%v doesn't come again", order)
		}
		if !slices.IsSorted(order) {
			mixed++
		}
		slices.Sort(order)
		for n, k := range order {
			if n != k || len(order) != size {
				t.Fatalf("the numbers below %d: %v", size, order)
			}
		}
	}
	if mixed < 30 {
		t.Errorf("only %d orders are mixed", mixed)
	}
}

func TestOne(t *testing.T) {
	var n probe.Numbers
	seen := make(map[string]int)
	for range 300 {
		seen[n.One("a", "b", "c")]++
	}
	if len(seen) != 3 || min(seen["a"], seen["b"], seen["c"]) < 50 {
		t.Errorf("how often each text came: %v", seen)
	}
}

func TestTexts(t *testing.T) {
	if got, want := probe.Texts(2, "a", "bc"), []string{"", "a", "bc", "aa", "abc", "bca", "bcbc"}; !slices.Equal(got, want) {
		t.Errorf("Texts: %q", got)
	}
	if got := probe.Texts(0, "a"); !slices.Equal(got, []string{""}) {
		t.Errorf("Texts of none: %q", got)
	}
}

// TestMixedText: they come again, and both right and wrong ones are many.
func TestMixedText(t *testing.T) {
	var first, second probe.Numbers
	right := 0
	for range 1000 {
		text := probe.MixedText(&first)
		if text != probe.MixedText(&second) {
			t.Fatalf("%q doesn't come again", text)
		}
		if _, err := spec.Read(text); err == nil {
			right++
		}
	}
	if right < 200 || right > 800 {
		t.Errorf("%d are read", right)
	}
}

func TestUpTo(t *testing.T) {
	if got := probe.UpTo(4); !slices.Equal(got, []int{0, 1, 2, 3}) || len(probe.UpTo(0)) != 0 {
		t.Errorf("UpTo: %v", got)
	}
}

func TestNames(t *testing.T) {
	if got := probe.Names("n", 3); !slices.Equal(got, []string{"n0", "n1", "n2"}) {
		t.Errorf("Names: %q", got)
	}
}

func TestLetters(t *testing.T) {
	if got := probe.Letters('b', 3); !slices.Equal(got, []string{"b", "c", "d"}) || len(probe.Letters('a', 0)) != 0 {
		t.Errorf("Letters: %q", got)
	}
}

func TestRead(t *testing.T) {
	want := api.Grammar{Terms: []string{"a", "b"}, Nonterms: []string{"S", "T"}, Rules: []api.Rule{probe.Rule(0, 0, -2), probe.Rule(1, 1), probe.Rule(1)}}
	if got := probe.Read("S : a T; T : b |"); !gram.Same(got, want) {
		t.Errorf("Read: %v", got)
	}
	defer func() {
		if recover() == nil {
			t.Error("a wrong text is read")
		}
	}()
	probe.Read("S")
}

func TestWithRules(t *testing.T) {
	rules := probe.RulesOf(2, nil, []int{-1})
	if want := []api.Rule{probe.Rule(0), probe.Rule(1), probe.Rule(0, -1), probe.Rule(1, -1)}; !gram.Same(api.Grammar{Rules: rules}, api.Grammar{Rules: want}) {
		t.Fatalf("RulesOf: %v", rules)
	}
	g := api.Grammar{Nonterms: []string{"S", "T"}}
	forms := probe.WithRules(g, 2, rules)
	if len(forms) != 1+4+10 || !gram.Same(forms[0], g) {
		t.Errorf("%d forms of %v", len(forms), forms[0])
	}
	for n, form := range forms {
		if len(form.Rules) > 2 || slices.ContainsFunc(forms[:n], func(f api.Grammar) bool { return gram.Same(f, form) }) {
			t.Errorf("form %d: %v", n, form.Rules)
		}
	}
}

func TestTurned(t *testing.T) {
	g := nest()
	g.Rules = append(g.Rules, probe.Rule(0, 1, -1))
	turned := probe.Turned(g)
	want := nest()
	want.Rules = []api.Rule{probe.Rule(0, 1, -1, 0), probe.Rule(0), probe.Rule(0, -1, 1)}
	if !gram.Same(turned, want) || !gram.Same(probe.Turned(turned), g) || !probe.GrammarsApart(g, turned) {
		t.Errorf("Turned: %v", turned)
	}
}

func TestShuffled(t *testing.T) {
	g := nest()
	g.Rules = probe.RulesOf(1, probe.Sides(4, -1, 0)...)
	var n probe.Numbers
	other := probe.Shuffled(g, &n)
	if gram.Same(g, other) || gram.Same(probe.Shuffled(g, &n), other) {
		t.Errorf("Shuffled: %v", other)
	}
	slices.SortStableFunc(other.Rules, func(a, b api.Rule) int { return slices.Compare(a.Right, b.Right) })
	slices.SortStableFunc(g.Rules, func(a, b api.Rule) int { return slices.Compare(a.Right, b.Right) })
	if !gram.Same(g, other) {
		t.Errorf("Shuffled has other rules: %v", other)
	}
}

func TestLessened(t *testing.T) {
	g := nest()
	g.Rules = append(g.Rules, probe.Rule(0, 1))
	forms := probe.Lessened(g)
	if len(forms) != 3 || len(g.Rules) != 3 || len(probe.Lessened(api.Grammar{})) != 0 {
		t.Fatalf("Lessened: %v", forms)
	}
	for n, form := range forms {
		want := nest()
		want.Rules = append(slices.Clone(g.Rules[:n]), g.Rules[n+1:]...)
		if !gram.Same(form, want) {
			t.Errorf("without rule %d: %v", n, form)
		}
	}
}

func TestSides(t *testing.T) {
	want := [][]int{nil, {-1}, {4}, {-1, -1}, {-1, 4}, {4, -1}, {4, 4}}
	if got := probe.Sides(2, -1, 4); !slices.EqualFunc(got, want, slices.Equal[[]int]) {
		t.Errorf("Sides: %v", got)
	}
	if got := probe.Sides(3); len(got) != 1 || len(got[0]) != 0 {
		t.Errorf("Sides of no symbols: %v", got)
	}
}

func TestOperatorSides(t *testing.T) {
	want := [][]int{{-1}, {4}, {-1, 4}, {4, -1}, {4, 4}}
	if got := probe.OperatorSides(probe.Sides(2, -1, 4)); !slices.EqualFunc(got, want, slices.Equal[[]int]) {
		t.Errorf("OperatorSides: %v", got)
	}
	if got := probe.OperatorSides([][]int{{4, 4, -1, -2}, {-1, 4, -1, 4}, {-2, -2, 4}}); len(got) != 1 {
		t.Errorf("OperatorSides of longer ones: %v", got)
	}
}

func TestOperatorRule(t *testing.T) {
	g := api.Grammar{Terms: []string{"a", "b"}, Nonterms: []string{"S", "T", "U"}}
	var n probe.Numbers
	for k := range 500 {
		r := probe.OperatorRule(&n, g, 1+k%8, 2+k%3)
		g.Rules = []api.Rule{r}
		if gram.Check(g) != nil || len(r.Right) != 1+k%8 || len(probe.OperatorSides([][]int{r.Right})) != 1 {
			t.Fatalf("OperatorRule: %v", r)
		}
	}
}

// TestClear: no grammar has a clash, and they are of all kinds.
func TestClear(t *testing.T) {
	var n, again probe.Numbers
	seen := make([]int, 30)
	for range 200 {
		g := probe.Clear(&n, 4, 3, 25, 6)
		m, err := matrix.Of(g)
		if err != nil || !gram.Same(g, probe.Clear(&again, 4, 3, 25, 6)) {
			t.Fatalf("Clear: %v, %v", g, err)
		}
		if _, clash := m.Clash(); clash || opform.Check(g) != nil || len(g.Terms) != 4 || len(g.Nonterms) != 3 {
			t.Fatalf("Clear: %v", g)
		}
		seen[len(g.Rules)]++
	}
	if max(seen[0], seen[25]) > 10 || slices.Max(seen) > 80 {
		t.Errorf("how many have how many rules: %v", seen)
	}
}

func nest() api.Grammar {
	return api.Grammar{Terms: []string{"a", "b"}, Nonterms: []string{"S"}, Rules: []api.Rule{probe.Rule(0, 0, -1, 1), probe.Rule(0)}}
}

func TestWrongsAreRefused(t *testing.T) {
	var seen []error
	for _, w := range probe.Wrongs(nest()) {
		err := gram.Check(w.Grammar)
		if err == nil {
			t.Errorf("%s: gram takes it", w.What)
		}
		seen = append(seen, probe.Which(err))
	}
	for _, want := range []error{api.ErrArg, api.ErrBounds, api.ErrName} {
		if !slices.Contains(seen, want) {
			t.Errorf("none is refused by %v", want)
		}
	}
}

func TestRoomyAndWhole(t *testing.T) {
	g := nest()
	roomy := probe.Roomy(g)
	if !gram.Same(g, roomy) || !probe.GrammarsApart(g, roomy) {
		t.Errorf("Roomy: %v", roomy)
	}
	want := api.Grammar{
		Terms:    []string{"a", "b", "spare"},
		Nonterms: []string{"S", "spare"},
		Rules:    []api.Rule{probe.Rule(0, 0, -1, 1, -1), probe.Rule(0, -1), probe.Rule(0)},
	}
	if whole := probe.Whole(roomy); !gram.Same(whole, want) || !gram.Same(roomy, g) {
		t.Errorf("Whole: %v", whole)
	}
	roomy.Rules[1].Right = append(roomy.Rules[1].Right, 1)[:0]
	if gram.Same(probe.Whole(roomy), want) {
		t.Error("what is written behind a list isn't told by Whole")
	}
}

func TestApart(t *testing.T) {
	room := []int{1, 2, 3, 4}
	cases := []struct {
		a, b []int
		want bool
	}{
		{nil, nil, true},
		{room, nil, true},
		{room, []int{1, 2, 3, 4}, true},
		{room[:2:2], room[2:], true},
		{room[:2], room[2:], false},
		{room[:0], room[3:], false},
		{room[1:2], room[:1], false},
		{room, room, false},
	}
	for _, c := range cases {
		if probe.Apart(c.a, c.b) != c.want || probe.Apart(c.b, []int{5}, c.a) != c.want {
			t.Errorf("Apart of %v and %v, want %v", c.a, c.b, c.want)
		}
	}
}

func TestGrammarsApart(t *testing.T) {
	if g := nest(); !probe.GrammarsApart(g, nest(), gram.Copy(g)) || !probe.GrammarsApart() || probe.GrammarsApart(g, g) {
		t.Error("grammars that share nothing, and all")
	}
	names, rules, sides := nest(), nest(), nest()
	names.Nonterms = names.Terms[:1]
	rules.Rules = rules.Rules[:1]
	sides.Rules[1].Right = sides.Rules[0].Right[:0]
	other := nest()
	other.Rules = rules.Rules[1:]
	if probe.GrammarsApart(names) || probe.GrammarsApart(rules, other) || probe.GrammarsApart(sides) {
		t.Error("lists that share memory are told apart")
	}
}

func TestDerived(t *testing.T) {
	cases := []struct {
		text string
		want []string
	}{
		{"S : a S b | a b", []string{"ab aabb"}},
		{"S : S S | a", []string{"a aa aaa aaaa aaaaa"}},
		{"S : A b A; A : a A |", []string{"b ab ba aba aab baa aaba abaa aaab baaa aabaa aaaba abaaa aaaab baaaa", " a aa aaa aaaa aaaaa"}},
		{"S : A; A : S; B : a b a b a b | a", []string{"-", "-", "a"}},
		{"S : S a S; A :", []string{"-", ""}},
	}
	for _, c := range cases {
		for n, rows := range probe.Derived(probe.Read(c.text), 5) {
			want := strings.Split(c.want[n], " ")
			if c.want[n] == "-" {
				want = nil
			}
			if len(rows) != len(want) || slices.ContainsFunc(want, func(row string) bool { return !rows.Has(row) }) {
				t.Errorf("%s, nonterminal %d: %v, want %q", c.text, n, rows, want)
			}
		}
	}
}

// TestDeriver: all rows are derived, and of about the size that is asked for; of small grammars each short row comes.
func TestDeriver(t *testing.T) {
	var n probe.Numbers
	for _, text := range []string{"S : a S b | a b", "E : E + T | T; T : ( E ) | i | j", "S : A | B; A : a | A b; B : S", "S : U | a S; U : U a; S : b"} {
		g := probe.Read(text)
		d, ok := probe.NewDeriver(g)
		if !ok {
			t.Fatalf("%s: no rows", text)
		}
		derived := probe.Derived(g, 6)[g.Axiom]
		seen := make(probe.Rows)
		longest := 0
		for k := range 4000 {
			size := k % 50 * (k % 2)
			if size == 0 {
				size = k % 8
			}
			row := named(g, d.Row(&n, size))
			longest = max(longest, len(row))
			if len(row) > 2*size+10 {
				t.Errorf("%s: %q of the size %d", text, row, size)
			}
			if len(row) <= 6 {
				seen[row] = struct{}{}
				if !derived.Has(row) {
					t.Errorf("%s: %q isn't derived", text, row)
				}
			}
		}
		if len(seen) != len(derived) || longest < 40 {
			t.Errorf("%s: %d short rows of %d, the longest has %d", text, len(seen), len(derived), longest)
		}
	}
}

// named is a row as the names of its terminals.
func named(g api.Grammar, row []int) string {
	var text strings.Builder
	for _, token := range row {
		text.WriteString(g.Terms[token])
	}
	return text.String()
}

func TestDeriverOfNoRows(t *testing.T) {
	for _, text := range []string{"S : a S", "S : S", "S : T a; T : T"} {
		if _, ok := probe.NewDeriver(probe.Read(text)); ok {
			t.Errorf("%s: rows", text)
		}
	}
}

// TestTreesOfADeriver: the trees that a Deriver makes are trees of its rows.
func TestTreesOfADeriver(t *testing.T) {
	var n, m probe.Numbers
	rules := make(map[int]int)
	for k, text := range []string{"S : a S b | a b", "E : E + T | T; T : ( E ) | i | j", "S : S S S | T; T : a | S | b T T"} {
		g := probe.Read(text)
		d, _ := probe.NewDeriver(g)
		for size := range 300 {
			tree, row := d.Tree(&n, size)
			root, ok := probe.TreeOf(g.Rules, tree)
			if !ok || root.Symbol != -1-g.Axiom || root.Step.From != 0 || !slices.Equal(root.Tokens(), row) || !slices.Equal(d.Row(&m, size), row) {
				t.Fatalf("%s: %v of %v", text, tree, row)
			}
			for _, s := range tree {
				rules[100*k+s.Rule]++
			}
		}
	}
	if len(rules) != 2+5+5 {
		t.Errorf("the rules %v", rules)
	}
}

func TestTreeOf(t *testing.T) {
	rules := probe.Read("E : E + T | T; T : i").Rules
	right := []api.Step{{Rule: 0, From: 0, To: 3}, {Rule: 1, From: 0, To: 1}, {Rule: 2, From: 0, To: 1}, {Rule: 2, From: 2, To: 3}}
	for _, by := range []int{0, 1, 7, math.MaxInt - 3} {
		list := probe.Moved(right, by)
		root, ok := probe.TreeOf(rules, list)
		if !ok || root.Symbol != -1 || root.Step != list[0] || len(root.Parts) != 3 || !slices.Equal(root.Tokens(), []int{1, 0, 1}) || !slices.Equal(root.Steps(), list) {
			t.Errorf("%v: %v, %v", list, root, ok)
		}
	}
	if root, ok := probe.TreeOf(rules, right[3:]); !ok || root.Symbol != -2 || root.Parts[0].Step != (api.Step{From: 2, To: 3}) {
		t.Errorf("%v, %v", root, ok)
	}
	wrong := [][]api.Step{
		nil, right[:3], right[:1], append(right[:4:4], right[3]), right[1:],
		probe.Moved(right, -1), probe.Moved(right, math.MaxInt-2),
		{{Rule: -1, To: 1}}, {{Rule: 3, To: 1}}, {{Rule: 2}}, {{Rule: 2, To: 2}}, {{Rule: 1, To: 1}, {Rule: 1, To: 1}},
		{{Rule: 1, To: 1}, {Rule: 2, From: 1, To: 2}}, {{Rule: 1, To: 2}, {Rule: 2, To: 1}}, {{Rule: 2, From: math.MaxInt, To: math.MinInt}},
	}
	for _, list := range wrong {
		if root, ok := probe.TreeOf(rules, list); ok {
			t.Errorf("%v: %v", list, root)
		}
	}
}

// TestMixedGrammars: each may be, has no empty right side, and derives rows; nonterminals stand side by side in many, and renamings in many.
func TestMixedGrammars(t *testing.T) {
	var n probe.Numbers
	beside, renamings := 0, 0
	for _, g := range probe.MixedGrammars(60) {
		if err := gram.Check(g); err != nil {
			t.Fatalf("%v: %v", g, err)
		}
		d, ok := probe.NewDeriver(g)
		if !ok || len(d.Row(&n, 5)) == 0 {
			t.Fatalf("%v: no rows", g)
		}
		if err := opform.Check(g); err != nil {
			beside++
		}
		if slices.ContainsFunc(g.Rules, func(r api.Rule) bool { _, ok := gram.Renaming(r); return ok }) {
			renamings++
		}
		if slices.ContainsFunc(g.Rules, func(r api.Rule) bool { return len(r.Right) == 0 }) {
			t.Errorf("%v: an empty right side", g)
		}
	}
	if min(beside, renamings) < 20 {
		t.Errorf("%d not in operator form, %d with renamings", beside, renamings)
	}
}

func TestMoved(t *testing.T) {
	list := []api.Step{{Rule: 1, From: 2, To: 3}, {Rule: 4, From: 5, To: 6}}
	got := probe.Moved(list, 10)
	if !slices.Equal(got, []api.Step{{Rule: 1, From: 12, To: 13}, {Rule: 4, From: 15, To: 16}}) || list[0].From != 2 || !probe.Apart(list, got) {
		t.Errorf("Moved: %v of %v", got, list)
	}
}

// TestSpoiledSteps: what is spoiled is new memory, and nearly always another list, of up to one step less or more.
func TestSpoiledSteps(t *testing.T) {
	var n probe.Numbers
	others, sizes := 0, make(map[int]int)
	for range 1000 {
		list := make([]api.Step, n.Below(9), 12)
		for k := range list {
			list[k] = api.Step{Rule: n.Below(3), From: n.Below(9), To: n.Below(9)}
		}
		before := slices.Clone(list[:cap(list)])
		got := probe.SpoiledSteps(&n, 3, list)
		if !slices.Equal(list[:cap(list)], before) || !probe.Apart(list, got) {
			t.Fatalf("%v became %v", before, list[:cap(list)])
		}
		if !slices.Equal(got, list) {
			others++
		}
		sizes[len(got)-len(list)]++
	}
	if others < 700 || len(sizes) != 3 || min(sizes[-1], sizes[0], sizes[1]) < 100 {
		t.Errorf("%d others, lengths %v", others, sizes)
	}
}

func TestTables(t *testing.T) {
	for _, text := range probe.ClearTexts() {
		if x := probe.Tables(text); !gram.Same(x.Grammar(), probe.Read(text)) {
			t.Errorf("%s: Tables of %v", text, x.Grammar())
		}
	}
	x := probe.Tables("S : a T; T : b")
	if !gram.Same(x.Grammar(), probe.Read("S : a T; T : b")) || x.Relation(0, 1) != api.Yields {
		t.Errorf("Tables: %v", x.Grammar())
	}
}

// TestSomeTables: of each a row is derived, and terminals' names have one byte.
func TestSomeTables(t *testing.T) {
	var n probe.Numbers
	all := probe.SomeTables()
	if len(all) < 50 {
		t.Errorf("%d tables", len(all))
	}
	for k, x := range all {
		g := x.Grammar()
		derived := probe.Derived(g, 8)[g.Axiom]
		for size := range 8 {
			row := probe.RowOf(&n, x, size)
			if len(row) == 0 || len(row) <= 8 && !derived.Has(named(g, row)) {
				t.Errorf("%v: %v isn't derived", g, row)
			}
		}
		if slices.ContainsFunc(g.Terms, func(name string) bool { return len(name) != 1 }) {
			t.Errorf("%v: long names", g)
		}
		if slices.ContainsFunc(all[:k], x.Same) {
			t.Errorf("%v: there twice", g)
		}
	}
}

// TestSpoiled: what is spoiled is new memory, of the same terminals and of up to two tokens less or more.
func TestSpoiled(t *testing.T) {
	var n probe.Numbers
	others, sizes := 0, make(map[int]int)
	for range 1000 {
		row := make([]int, n.Below(9), 12)
		for k := range row {
			row[k] = n.Below(3)
		}
		before := slices.Clone(row[:cap(row)])
		got := probe.Spoiled(&n, 3, row)
		if !slices.Equal(row[:cap(row)], before) || !probe.Apart(row, got) {
			t.Fatalf("%v became %v", before, row[:cap(row)])
		}
		if slices.ContainsFunc(got, func(token int) bool { return token < 0 || token > 2 }) {
			t.Fatalf("%v of 3 terminals", got)
		}
		if !slices.Equal(got, row) {
			others++
		}
		sizes[len(got)-len(row)]++
	}
	if others < 700 || len(sizes) != 5 || sizes[3] > 0 || sizes[-3] > 0 {
		t.Errorf("%d others, lengths %v", others, sizes)
	}
}
