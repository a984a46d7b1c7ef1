package gram_test

import (
	"math"
	"reflect"
	"slices"
	"strings"
	"testing"
	"unsafe"

	"dovetail/api"
	"dovetail/gram"
	"dovetail/probe"
)

// noRule is what checkError wants of an error that tells no rule.
const noRule = probe.None

func checkError(t *testing.T, what string, err, want error, rule int) {
	t.Helper()
	if probe.Which(err) != want || probe.RuleOf(err) != rule {
		t.Errorf("%s: %v, want %v in rule %d", what, err, want, rule)
	}
	if _, ok := probe.PairOf(err); ok || probe.PlaceOf(err) != probe.None {
		t.Errorf("%s: %v tells a place or a pair", what, err)
	}
}

func rule(left int, right ...int) api.Rule { return api.Rule{Left: left, Right: right} }

// sums is G of the chapter.
func sums() api.Grammar {
	return api.Grammar{Terms: []string{"+", "i"}, Nonterms: []string{"E"}, Rules: []api.Rule{rule(0, -1, 0, -1), rule(0, 1)}}
}

// mixed is a grammar that may be, with many renamings.
func mixed(n *probe.Numbers) api.Grammar {
	g := api.Grammar{Terms: probe.Names("t", 1+n.Below(3)), Nonterms: probe.Names("n", 1+n.Below(9))}
	g.Axiom = n.Below(len(g.Nonterms))
	for range n.Below(16) {
		size := 1
		if n.Below(4) == 0 {
			size = n.Below(4)
		}
		r := rule(n.Below(len(g.Nonterms)))
		for range size {
			symbol := -1 - n.Below(len(g.Nonterms))
			if n.Below(5) == 0 {
				symbol = n.Below(len(g.Terms))
			}
			r.Right = append(r.Right, symbol)
		}
		g.Rules = append(g.Rules, r)
	}
	return g
}

// manyGrammars are grammars that may be: the smallest, the greatest, and mixed ones.
func manyGrammars() []api.Grammar {
	list := []api.Grammar{sums(), {Nonterms: []string{"S"}}, greatest()}
	var n probe.Numbers
	for range 400 {
		list = append(list, mixed(&n))
	}
	return list
}

// greatest is at all bounds at once.
func greatest() api.Grammar {
	g := api.Grammar{Terms: probe.Names("t", 24), Nonterms: probe.Names(strings.Repeat("n", api.MaxName-2), 36), Axiom: 35}
	g.Nonterms[0], g.Nonterms[1] = strings.Repeat("n", api.MaxName), strings.Repeat("\xff", api.MaxName)
	for k := range api.MaxSource {
		r := rule(k % 36)
		for s := range api.MaxRight {
			r.Right = append(r.Right, (k+s)%60-36)
		}
		g.Rules = append(g.Rules, r)
	}
	return g
}

// P3.1

func TestCheckTakes(t *testing.T) {
	cases := map[string]api.Grammar{
		"sums":                          sums(),
		"at all bounds":                 greatest(),
		"a nonterminal alone":           {Nonterms: []string{"S"}},
		"60 nonterminals":               {Nonterms: probe.Names("n", 60), Axiom: 59},
		"59 terminals":                  {Terms: probe.Names("t", 59), Nonterms: []string{"S"}},
		"an empty right side":           {Nonterms: []string{"S"}, Rules: []api.Rule{{}, {Right: []int{}}}},
		"one rule twice":                {Nonterms: []string{"S"}, Terms: []string{"a"}, Rules: []api.Rule{{Right: []int{0}}, {Right: []int{0}}}},
		"a name on both sides":          {Nonterms: []string{"a", "b"}, Terms: []string{"b", "a"}},
		"names of any bytes":            {Nonterms: []string{"\x00", " ", "\n", "\xff"}, Terms: []string{":", "|", "\"", "\x00\x00"}},
		"names of 1 and 32 bytes":       {Nonterms: []string{"S", strings.Repeat("S", 32)}, Terms: []string{strings.Repeat("é", 16)}},
		"one name's beginning another":  {Nonterms: []string{"S", "SS", "s"}, Terms: []string{"ab", "a", "b"}},
		"two nonterminals side by side": {Nonterms: []string{"S"}, Rules: []api.Rule{{Right: []int{-1, -1}}}},
		"a nonterminal without rules":   {Nonterms: []string{"S", "T"}, Axiom: 1, Rules: []api.Rule{{Right: []int{-2}}}},
	}
	for what, g := range cases {
		checkError(t, what, gram.Check(g), nil, noRule)
	}
	for _, g := range manyGrammars() {
		checkError(t, "a grammar that may be", gram.Check(g), nil, noRule)
	}
}

// fault turns a grammar that may be into one that may not.
type fault struct {
	what string
	turn func(g *api.Grammar)
	err  error
	rule int
}

func withRules(rules ...api.Rule) func(g *api.Grammar) {
	return func(g *api.Grammar) { g.Rules = append(g.Rules, rules...) }
}

// faults are kinds of faults of sums, each beside those of its rank, ahead of those that are found later.
func faults() [][]fault {
	long := strings.Repeat("x", api.MaxName+1)
	return [][]fault{
		{
			{"61 symbols", func(g *api.Grammar) { g.Terms = append(g.Terms, probe.Names("t", 61-len(g.Terms)-len(g.Nonterms))...) }, api.ErrBounds, noRule},
			{"61 symbols, most nonterminals", func(g *api.Grammar) {
				g.Nonterms = append(g.Nonterms, probe.Names("n", 61-len(g.Terms)-len(g.Nonterms))...)
			}, api.ErrBounds, noRule},
			{"121 rules", func(g *api.Grammar) { g.Rules = append(g.Rules, make([]api.Rule, 121-len(g.Rules))...) }, api.ErrBounds, noRule},
		},
		{
			{"a terminal without bytes", func(g *api.Grammar) { g.Terms = append(g.Terms, "") }, api.ErrName, noRule},
			{"a nonterminal without bytes", func(g *api.Grammar) { g.Nonterms = append(g.Nonterms, "") }, api.ErrName, noRule},
			{"the first terminal without bytes", func(g *api.Grammar) { g.Terms[0] = "" }, api.ErrName, noRule},
			{"a terminal of 33 bytes", func(g *api.Grammar) { g.Terms = append(g.Terms, long) }, api.ErrName, noRule},
			{"a nonterminal of 33 bytes", func(g *api.Grammar) { g.Nonterms = append(g.Nonterms, long) }, api.ErrName, noRule},
			{"a terminal of 17 runes, 34 bytes", func(g *api.Grammar) { g.Terms = append(g.Terms, strings.Repeat("é", 17)) }, api.ErrName, noRule},
			{"the first terminal twice", func(g *api.Grammar) { g.Terms = append(g.Terms, "x", g.Terms[0]) }, api.ErrName, noRule},
			{"the last terminal twice", func(g *api.Grammar) { g.Terms = append(g.Terms, g.Terms[len(g.Terms)-1]) }, api.ErrName, noRule},
			{"a nonterminal twice", func(g *api.Grammar) { g.Nonterms = append(g.Nonterms, "E") }, api.ErrName, noRule},
		},
		{
			{"an axiom below 0", func(g *api.Grammar) { g.Axiom = -1 }, api.ErrArg, noRule},
			{"an axiom that is none's", func(g *api.Grammar) { g.Axiom = len(g.Nonterms) }, api.ErrArg, noRule},
			{"the least axiom", func(g *api.Grammar) { g.Axiom = math.MinInt }, api.ErrArg, noRule},
			{"the greatest axiom", func(g *api.Grammar) { g.Axiom = math.MaxInt }, api.ErrArg, noRule},
		},
		{
			{"33 symbols", withRules(api.Rule{Right: make([]int, 33)}), api.ErrBounds, 2},
			{"a Left that is none's", withRules(rule(1, 0)), api.ErrArg, 2},
			{"a Left below 0", withRules(rule(-1, 0)), api.ErrArg, 2},
			{"the least Left", withRules(rule(math.MinInt)), api.ErrArg, 2},
			{"the greatest Left", withRules(rule(math.MaxInt)), api.ErrArg, 2},
			{"the end in a right side", withRules(rule(0, 2)), api.ErrArg, 2},
			{"a nonterminal that there isn't", withRules(rule(0, -2)), api.ErrArg, 2},
			{"the least symbol", withRules(rule(0, math.MinInt)), api.ErrArg, 2},
			{"the greatest symbol", withRules(rule(0, math.MaxInt)), api.ErrArg, 2},
			{"the last of 32 symbols", withRules(api.Rule{Right: append(make([]int, 31), 2)}), api.ErrArg, 2},
			{"a later rule", withRules(api.Rule{}, rule(0, 1), rule(7)), api.ErrArg, 4},
			{"33 wrong symbols of a wrong Left", withRules(api.Rule{Left: 9, Right: slices.Repeat([]int{99}, 33)}), api.ErrBounds, 2},
			{"a wrong symbol ahead of a rule that is too long", withRules(rule(0, 9), api.Rule{Right: make([]int, 33)}), api.ErrArg, 2},
			{"a wrong Left ahead of a rule that is too long", withRules(rule(9), api.Rule{Right: make([]int, 33)}), api.ErrArg, 2},
			{"a rule that is too long ahead of a wrong one", withRules(api.Rule{Right: make([]int, 33)}, rule(-1)), api.ErrBounds, 2},
		},
	}
}

func TestCheckRefusesEachFault(t *testing.T) {
	for _, rank := range faults() {
		for _, f := range rank {
			g := sums()
			f.turn(&g)
			checkError(t, f.what, gram.Check(g), f.err, f.rule)
		}
	}
}

// The faults of an earlier rank are told, whichever of the two is put in first.
func TestCheckTellsTheFirstFault(t *testing.T) {
	ranks := faults()
	for i, rank := range ranks {
		for _, first := range rank {
			for _, later := range slices.Concat(ranks[i+1:]...) {
				for _, turns := range [][2]fault{{first, later}, {later, first}} {
					g := sums()
					turns[0].turn(&g)
					turns[1].turn(&g)
					checkError(t, turns[0].what+" and "+turns[1].what, gram.Check(g), first.err, first.rule)
				}
			}
		}
	}
}

func TestCheckOfNoNonterminals(t *testing.T) {
	checkError(t, "nothing", gram.Check(api.Grammar{}), api.ErrArg, noRule)
	checkError(t, "empty lists", gram.Check(api.Grammar{Terms: []string{}, Nonterms: []string{}, Rules: []api.Rule{}}), api.ErrArg, noRule)
	checkError(t, "60 terminals", gram.Check(api.Grammar{Terms: probe.Names("t", 60)}), api.ErrArg, noRule)
	checkError(t, "61 terminals", gram.Check(api.Grammar{Terms: probe.Names("t", 61)}), api.ErrBounds, noRule)
	checkError(t, "rules of none", gram.Check(api.Grammar{Terms: []string{"a"}, Rules: []api.Rule{{Right: make([]int, 33)}}}), api.ErrArg, noRule)
	checkError(t, "axiom -1", gram.Check(api.Grammar{Axiom: -1}), api.ErrArg, noRule)
}

func TestCheckTellsEachRule(t *testing.T) {
	for k := range api.MaxSource {
		g := greatest()
		g.Rules[k].Right[k%api.MaxRight] = 24
		checkError(t, "a wrong symbol", gram.Check(g), api.ErrArg, k)
		g.Rules[k].Right[k%api.MaxRight] = -37
		checkError(t, "a wrong nonterminal", gram.Check(g), api.ErrArg, k)
		g.Rules[k].Right = make([]int, 33)
		checkError(t, "33 symbols", gram.Check(g), api.ErrBounds, k)
	}
}

// P3.2

// strange are grammars that may not be.
func strange() []api.Grammar {
	list := []api.Grammar{
		{},
		{Terms: []string{}, Nonterms: []string{}, Rules: []api.Rule{}},
		{Axiom: math.MinInt},
		{Axiom: math.MaxInt, Rules: []api.Rule{{Left: math.MinInt, Right: []int{math.MaxInt, math.MinInt}}, {}}},
		{Terms: []string{"a", "b", "a", "", ""}, Nonterms: []string{"", "b", "b"}, Rules: make([]api.Rule, 200)},
		{Terms: probe.Names("t", 100), Nonterms: probe.Names("n", 100), Rules: []api.Rule{{Right: make([]int, 1000)}}},
		{Terms: []string{strings.Repeat("long", 1000)}, Nonterms: []string{strings.Repeat("long", 1000)}},
	}
	for _, f := range slices.Concat(faults()...) {
		g := sums()
		f.turn(&g)
		list = append(list, g)
	}
	return list
}

// plain is a grammar with nil in the place of each empty list.
func plain(g api.Grammar) api.Grammar {
	p := api.Grammar{Axiom: g.Axiom}
	p.Terms = append(p.Terms, g.Terms...)
	p.Nonterms = append(p.Nonterms, g.Nonterms...)
	for _, r := range g.Rules {
		p.Rules = append(p.Rules, api.Rule{Left: r.Left, Right: append([]int(nil), r.Right...)})
	}
	return p
}

func same(a, b api.Grammar) bool { return reflect.DeepEqual(plain(a), plain(b)) }

func TestCopy(t *testing.T) {
	for _, g := range append(strange(), manyGrammars()...) {
		c := gram.Copy(g)
		if !same(c, g) {
			t.Errorf("Copy(%v): %v", g, c)
		}
		if !gram.Same(c, g) || !gram.Same(g, c) {
			t.Errorf("Copy of %v isn't the Same", g)
		}
	}
}

func TestSame(t *testing.T) {
	base := func() api.Grammar {
		return api.Grammar{Terms: []string{"a", "b"}, Nonterms: []string{"S", "T"}, Axiom: 1, Rules: []api.Rule{rule(0, 0, 1), rule(1, -1), rule(1)}}
	}
	turns := []func(g *api.Grammar){
		func(g *api.Grammar) { g.Terms[0] = "c" },
		func(g *api.Grammar) { g.Terms[1] = "" },
		func(g *api.Grammar) { g.Terms[0], g.Terms[1] = "b", "a" },
		func(g *api.Grammar) { g.Terms = g.Terms[:1] },
		func(g *api.Grammar) { g.Terms = append(g.Terms, "c") },
		func(g *api.Grammar) { g.Terms = nil },
		func(g *api.Grammar) { g.Nonterms[1] = "t" },
		func(g *api.Grammar) { g.Nonterms[0], g.Nonterms[1] = "T", "S" },
		func(g *api.Grammar) { g.Nonterms = g.Nonterms[:1] },
		func(g *api.Grammar) { g.Nonterms = append(g.Nonterms, "") },
		func(g *api.Grammar) { g.Terms, g.Nonterms = g.Nonterms, g.Terms },
		func(g *api.Grammar) { g.Terms, g.Nonterms = []string{"a"}, []string{"b", "S", "T"} },
		func(g *api.Grammar) { g.Axiom = 0 },
		func(g *api.Grammar) { g.Axiom = -1 },
		func(g *api.Grammar) { g.Rules[0].Left = 1 },
		func(g *api.Grammar) { g.Rules[2].Left = 0 },
		func(g *api.Grammar) { g.Rules[0].Right[1] = 0 },
		func(g *api.Grammar) { g.Rules[0].Right = []int{1, 0} },
		func(g *api.Grammar) { g.Rules[0].Right = []int{0} },
		func(g *api.Grammar) { g.Rules[2].Right = []int{0} },
		func(g *api.Grammar) { g.Rules[0], g.Rules[1] = g.Rules[1], g.Rules[0] },
		func(g *api.Grammar) { g.Rules = g.Rules[:2] },
		func(g *api.Grammar) { g.Rules = append(g.Rules, g.Rules[2]) },
		func(g *api.Grammar) { g.Rules = nil },
	}
	for i, turn := range turns {
		g := base()
		turn(&g)
		if gram.Same(base(), g) || gram.Same(g, base()) {
			t.Errorf("Same of two unlike ones, %d: %v", i, g)
		}
		if !gram.Same(g, g) {
			t.Errorf("a grammar isn't the Same as itself: %v", g)
		}
	}
	if !gram.Same(base(), base()) {
		t.Error("two of the same aren't the Same")
	}
}

func TestSameOfEmptyLists(t *testing.T) {
	none, empty := api.Grammar{}, api.Grammar{Terms: []string{}, Nonterms: make([]string, 0, 4), Rules: []api.Rule{}}
	if !gram.Same(none, empty) || !gram.Same(empty, none) {
		t.Error("nil lists aren't the same as empty ones")
	}
	none.Rules, empty.Rules = []api.Rule{{}}, []api.Rule{{Right: []int{}}}
	if !gram.Same(none, empty) || !gram.Same(empty, none) {
		t.Error("a nil right side isn't the same as an empty one")
	}
}

func TestSameOfAll(t *testing.T) {
	list := append(strange(), manyGrammars()[:60]...)
	for _, a := range list {
		for _, b := range list {
			if got := gram.Same(a, b); got != same(a, b) {
				t.Errorf("Same(%v, %v): %v", a, b, got)
			}
		}
	}
}

// P3.3

func TestTermNonterm(t *testing.T) {
	g := api.Grammar{Terms: []string{"a", "b", "a", "", "S", "\xff", ""}, Nonterms: []string{"S", "", "a", "S", "T"}, Axiom: -9}
	cases := []struct {
		name                string
		term, nonterm       int
		hasTerm, hasNonterm bool
	}{
		{"a", 0, 2, true, true},
		{"b", 1, 0, true, false},
		{"", 3, 1, true, true},
		{"S", 4, 0, true, true},
		{"T", 0, 4, false, true},
		{"\xff", 5, 0, true, false},
		{"\ufffd", 0, 0, false, false},
		{"A", 0, 0, false, false},
		{"ab", 0, 0, false, false},
		{" a", 0, 0, false, false},
	}
	for _, c := range cases {
		if n, ok := gram.Term(g, c.name); n != c.term || ok != c.hasTerm {
			t.Errorf("Term(%q): %d %v, want %d %v", c.name, n, ok, c.term, c.hasTerm)
		}
		if n, ok := gram.Nonterm(g, c.name); n != c.nonterm || ok != c.hasNonterm {
			t.Errorf("Nonterm(%q): %d %v, want %d %v", c.name, n, ok, c.nonterm, c.hasNonterm)
		}
		if n, ok := gram.Term(api.Grammar{}, c.name); n != 0 || ok {
			t.Errorf("Term of no names: %d %v", n, ok)
		}
		if n, ok := gram.Nonterm(api.Grammar{}, c.name); n != 0 || ok {
			t.Errorf("Nonterm of no names: %d %v", n, ok)
		}
	}
}

func TestName(t *testing.T) {
	g := api.Grammar{Terms: []string{"a", "", "a"}, Nonterms: []string{"S", "T", "", "a"}, Axiom: 99}
	want := map[int]string{0: "a", 1: "", 2: "a", -1: "S", -2: "T", -3: "", -4: "a"}
	for symbol := -70; symbol <= 70; symbol++ {
		name, there := want[symbol]
		if got, ok := gram.Name(g, symbol); got != name || ok != there {
			t.Errorf("Name(%d): %q %v, want %q %v", symbol, got, ok, name, there)
		}
		if got, ok := gram.Name(api.Grammar{}, symbol); got != "" || ok {
			t.Errorf("Name(%d) of no names: %q %v", symbol, got, ok)
		}
	}
	for _, symbol := range []int{math.MinInt, math.MinInt + 1, math.MaxInt, math.MaxInt - 1, 1 << 32, -1 << 32, -1<<32 - 1} {
		if got, ok := gram.Name(g, symbol); got != "" || ok {
			t.Errorf("Name(%d): %q %v", symbol, got, ok)
		}
	}
}

// P3.4

func TestRenaming(t *testing.T) {
	cases := []struct {
		rule api.Rule
		n    int
		ok   bool
	}{
		{rule(0, -2), 1, true},
		{rule(0, -1), 0, true},
		{rule(5, -1), 0, true},
		{rule(-7, -60), 59, true},
		{rule(0, -1000), 999, true},
		{rule(0, math.MinInt), math.MaxInt, true},
		{rule(0, 0), 0, false},
		{rule(1, 1), 0, false},
		{rule(1, math.MaxInt), 0, false},
		{rule(3), 0, false},
		{rule(3), 0, false},
		{rule(3, -2, -2), 0, false},
		{rule(3, -2, 0), 0, false},
		{rule(3, 0, -2), 0, false},
		{rule(3, -2, -3, -4), 0, false},
	}
	for _, c := range cases {
		if n, ok := gram.Renaming(c.rule); n != c.n || ok != c.ok {
			t.Errorf("Renaming(%v): %d %v, want %d %v", c.rule, n, ok, c.n, c.ok)
		}
	}
}

// comesTo tells by the page's words whether a nonterminal comes to another one, by ways of at most so many renamings.
func comesTo(g api.Grammar, a, b, ways int) bool {
	if a == b {
		return true
	}
	if ways == 0 {
		return false
	}
	for _, r := range g.Rules {
		if r.Left == a && len(r.Right) == 1 && r.Right[0] < 0 && comesTo(g, -1-r.Right[0], b, ways-1) {
			return true
		}
	}
	return false
}

func checkAbove(t *testing.T, g api.Grammar, want ...api.Set) {
	t.Helper()
	if got := gram.Above(g); !slices.Equal(got, want) {
		t.Errorf("Above(%v): %b, want %b", g.Rules, got, want)
	}
}

func TestAbove(t *testing.T) {
	abc := func(rules ...api.Rule) api.Grammar {
		return api.Grammar{Terms: []string{"t"}, Nonterms: []string{"A", "B", "C"}, Axiom: 2, Rules: rules}
	}
	ab, bc, ca := rule(0, -2), rule(1, -3), rule(2, -1)
	checkAbove(t, abc(), 1, 2, 4)
	checkAbove(t, abc(ab), 1, 3, 4)
	checkAbove(t, abc(ab, bc), 1, 3, 7)
	checkAbove(t, abc(bc, ab), 1, 3, 7)
	checkAbove(t, abc(bc, ab, bc, ab), 1, 3, 7)
	checkAbove(t, abc(bc), 1, 2, 6)
	checkAbove(t, abc(ab, bc, ca), 7, 7, 7)
	checkAbove(t, abc(ca, bc, ab), 7, 7, 7)
	checkAbove(t, abc(rule(0, -1)), 1, 2, 4)
	checkAbove(t, abc(rule(0, -3), bc), 1, 2, 7)
	checkAbove(t, abc(ca, rule(2, -2)), 5, 6, 4)
	checkAbove(t, abc(api.Rule{}, rule(0, 0), rule(0, -2, 0), rule(0, 0, -2), rule(0, -2, -2)), 1, 2, 4)
}

// Sixty nonterminals in a row, by renamings that stand from the first on, and from the last on.
func TestAboveOfALongRow(t *testing.T) {
	g := api.Grammar{Nonterms: probe.Names("n", 60)}
	want := []api.Set{1}
	for k := range 59 {
		g.Rules = append(g.Rules, rule(k, -1-(k+1)))
		want = append(want, want[k]|2<<k)
	}
	checkAbove(t, g, want...)
	slices.Reverse(g.Rules)
	checkAbove(t, g, want...)
	g.Rules = append(g.Rules, rule(59, -1))
	checkAbove(t, g, slices.Repeat([]api.Set{1<<60 - 1}, 60)...)
}

func TestAboveOfMany(t *testing.T) {
	for _, g := range manyGrammars() {
		above := gram.Above(g)
		if len(above) != len(g.Nonterms) {
			t.Fatalf("Above(%v): %d sets", g, len(above))
		}
		if len(g.Nonterms) > 9 {
			continue
		}
		for b, set := range above {
			var want api.Set
			for a := range g.Nonterms {
				if comesTo(g, a, b, len(g.Nonterms)) {
					want |= 1 << a
				}
			}
			if set != want {
				t.Errorf("Above(%v) of %d: %b, want %b", g.Rules, b, set, want)
			}
		}
	}
}

func TestAboveOfWhatMayNotBe(t *testing.T) {
	for _, g := range strange() {
		if above := gram.Above(g); len(above) != 0 {
			t.Errorf("Above(%v): %b", g, above)
		}
	}
}

// P3.6

func TestNamesThereAndBack(t *testing.T) {
	for _, g := range manyGrammars() {
		for n, name := range g.Terms {
			if k, ok := gram.Term(g, name); k != n || !ok {
				t.Errorf("Term(%q): %d %v, want %d", name, k, ok, n)
			}
			if got, ok := gram.Name(g, n); got != name || !ok {
				t.Errorf("Name(%d): %q %v, want %q", n, got, ok, name)
			}
		}
		for n, name := range g.Nonterms {
			if k, ok := gram.Nonterm(g, name); k != n || !ok {
				t.Errorf("Nonterm(%q): %d %v, want %d", name, k, ok, n)
			}
			if got, ok := gram.Name(g, -1-n); got != name || !ok {
				t.Errorf("Name(%d): %q %v, want %q", -1-n, got, ok, name)
			}
		}
	}
}

// P3.7

func TestAboveTogether(t *testing.T) {
	for _, g := range manyGrammars() {
		above := gram.Above(g)
		for n, set := range above {
			if set>>n&1 == 0 {
				t.Errorf("Above(%v): %d isn't in its own set", g.Rules, n)
			}
			if set>>len(g.Nonterms) != 0 {
				t.Errorf("Above(%v): %b has what is no nonterminal", g.Rules, set)
			}
			for m := range above {
				if set>>m&1 == 1 && above[m]&^set != 0 {
					t.Errorf("Above(%v): the set of %d has %d, but not all that come to it", g.Rules, n, m)
				}
			}
		}
		g.Rules = slices.DeleteFunc(gram.Copy(g).Rules, func(r api.Rule) bool { _, ok := gram.Renaming(r); return ok })
		for n, set := range gram.Above(g) {
			if set != 1<<n {
				t.Errorf("Above(%v): %b of %d without renamings", g.Rules, set, n)
			}
		}
	}
}

// P3.8

// roomy is a grammar in lists with spare room behind them, and a function that tells whether the lists and their room are as they were.
func roomy() (api.Grammar, func() bool) {
	terms, nonterms := []string{"t", "u", "x", "y"}, []string{"A", "B", "C", "x", "y"}
	right := []int{0, -1, 1, 98, 99}
	rules := []api.Rule{rule(0, -2), {Left: 1, Right: right[:3]}, {Left: 1, Right: right[3:3]}, rule(2, -1), rule(97), rule(96)}
	g := api.Grammar{Terms: terms[:2], Nonterms: nonterms[:3], Axiom: 1, Rules: rules[:4]}
	wantTerms, wantNonterms, wantRight := slices.Clone(terms), slices.Clone(nonterms), slices.Clone(right)
	return g, func() bool {
		lefts := []int{}
		for _, r := range rules {
			lefts = append(lefts, r.Left)
		}
		return slices.Equal(terms, wantTerms) && slices.Equal(nonterms, wantNonterms) && slices.Equal(right, wantRight) &&
			slices.Equal(lefts, []int{0, 1, 1, 2, 97, 96}) && len(rules[1].Right) == 3 && slices.Equal(rules[0].Right, []int{-2}) && slices.Equal(rules[3].Right, []int{-1})
	}
}

func TestLeavesWhatIsHandedIn(t *testing.T) {
	g, kept := roomy()
	other, otherKept := roomy()
	wrong := g
	wrong.Axiom = 9
	calls := map[string]func(){
		"Check":       func() { gram.Check(g) },
		"Check wrong": func() { gram.Check(wrong) },
		"Copy":        func() { spoil(gram.Copy(g)) },
		"Same":        func() { gram.Same(g, other) },
		"Term":        func() { gram.Term(g, "x") },
		"Nonterm":     func() { gram.Nonterm(g, "x") },
		"Name":        func() { gram.Name(g, 2) },
		"Renaming":    func() { gram.Renaming(g.Rules[1]) },
		"Above": func() {
			for i, sets := 0, gram.Above(g); i < cap(sets); i++ {
				sets[:cap(sets)][i] = 0
			}
		},
		"Above wrong": func() { gram.Above(wrong) },
	}
	for what, call := range calls {
		call()
		if !kept() || !otherKept() {
			t.Fatalf("%s changed a list that was handed in, or the room behind it", what)
		}
	}
}

// spoil writes into all lists of a grammar, and into the room behind them.
func spoil(g api.Grammar) {
	for _, list := range [][]string{g.Terms, g.Nonterms} {
		list = list[:cap(list)]
		for i := range list {
			list[i] = "spoilt"
		}
	}
	for _, r := range g.Rules {
		right := r.Right[:cap(r.Right)]
		for i := range right {
			right[i] = -99
		}
	}
	rules := g.Rules[:cap(g.Rules)]
	for i := range rules {
		rules[i] = rule(-99)
	}
}

func TestCopyIsNewMemory(t *testing.T) {
	for _, g := range append(manyGrammars(), strange()...) {
		want := plain(g)
		first, second := gram.Copy(g), gram.Copy(g)
		spoil(first)
		if !same(g, want) || !same(second, want) || !same(gram.Copy(g), want) {
			t.Errorf("copies of %v share memory", want)
		}
		spoil(g)
		if !same(second, want) {
			t.Errorf("a copy of %v shares memory with it", want)
		}
	}
}

func TestListsOfACopyShareNothing(t *testing.T) {
	for _, g := range append(manyGrammars(), strange()...) {
		if !probe.GrammarsApart(gram.Copy(g)) {
			t.Errorf("lists of a copy of %v share memory", g)
		}
	}
	shared := []int{0, 0, 0}
	g := api.Grammar{Terms: []string{"t"}, Nonterms: []string{"S"}, Rules: []api.Rule{{Right: shared[:2]}, {Right: shared}, {Right: shared[1:]}}}
	if !probe.GrammarsApart(gram.Copy(g)) {
		t.Error("what is shared in a grammar is shared in its copy")
	}
}

func TestNamesAreNewMemory(t *testing.T) {
	text := strings.Repeat("name", 3)
	g := api.Grammar{Terms: []string{text[:4]}, Nonterms: []string{text[4:9]}}
	c := gram.Copy(g)
	term, _ := gram.Name(g, 0)
	nonterm, _ := gram.Name(g, -1)
	for _, name := range []string{c.Terms[0], c.Nonterms[0], term, nonterm} {
		if within(name, text) {
			t.Errorf("the name %q lies in the text that it was cut from", name)
		}
	}
}

// within tells whether a text's bytes are a piece of another one's.
func within(s, text string) bool {
	at, from := uintptr(unsafe.Pointer(unsafe.StringData(s))), uintptr(unsafe.Pointer(unsafe.StringData(text)))
	return at >= from && at < from+uintptr(len(text))
}

func TestAboveIsNewMemory(t *testing.T) {
	for _, g := range manyGrammars() {
		first, second := gram.Above(g), gram.Above(g)
		want := slices.Clone(second)
		first = first[:cap(first)]
		for i := range first {
			first[i] = 1 << 63
		}
		if !slices.Equal(second, want) || !slices.Equal(gram.Above(g), want) {
			t.Errorf("lists of Above(%v) share memory", g)
		}
	}
}

// TestExamples is the table of chapter 3, but for the Builder.
func TestExamples(t *testing.T) {
	with := func(turn func(g *api.Grammar)) error {
		g := sums()
		turn(&g)
		return gram.Check(g)
	}
	checkError(t, "G", gram.Check(sums()), nil, noRule)
	checkError(t, "Axiom 1", with(func(g *api.Grammar) { g.Axiom = 1 }), api.ErrArg, noRule)
	checkError(t, "E: 2", with(withRules(rule(0, 2))), api.ErrArg, 2)
	checkError(t, "a terminal without bytes", with(func(g *api.Grammar) { g.Terms = append(g.Terms, "") }), api.ErrName, noRule)
	checkError(t, "no nonterminals", with(func(g *api.Grammar) { g.Nonterms = nil }), api.ErrArg, noRule)
	checkError(t, "61 symbols", with(func(g *api.Grammar) { g.Terms = probe.Names("t", 60) }), api.ErrBounds, noRule)
	checkError(t, "33 symbols", with(func(g *api.Grammar) { g.Rules[1].Right = make([]int, 33) }), api.ErrBounds, 1)
	i, isTerm := gram.Term(sums(), "i")
	_, noTerm := gram.Term(sums(), "E")
	e, isNonterm := gram.Nonterm(sums(), "E")
	if i != 1 || !isTerm || noTerm || e != 0 || !isNonterm {
		t.Errorf("Term, Nonterm: %d %v, %v, %d %v", i, isTerm, noTerm, e, isNonterm)
	}
	term, _ := gram.Name(sums(), 1)
	nonterm, _ := gram.Name(sums(), -1)
	if _, ok := gram.Name(sums(), 2); term != "i" || nonterm != "E" || ok {
		t.Errorf("Name: %q, %q, %v", term, nonterm, ok)
	}
	b, renames := gram.Renaming(rule(0, -2))
	if _, ok := gram.Renaming(sums().Rules[1]); b != 1 || !renames || ok {
		t.Errorf("Renaming: %d %v, %v", b, renames, ok)
	}
	abc := api.Grammar{Terms: []string{"t"}, Nonterms: []string{"A", "B", "C"}, Rules: []api.Rule{rule(0, -2), rule(1, -3), rule(2, 0)}}
	checkAbove(t, abc, 1, 3, 7)
}
