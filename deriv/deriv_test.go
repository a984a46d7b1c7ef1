package deriv_test

import (
	"math"
	"slices"
	"strings"
	"testing"

	"dovetail/api"
	"dovetail/deriv"
	"dovetail/probe"
)

func wantFault(t *testing.T, what string, got, want probe.Fault) {
	t.Helper()
	if got != want {
		t.Errorf("%s: %v, want %v", what, got, want)
	}
}

// Errors that all calls have

// checkAll wants that of every call, of whatever else it is given.
func checkAll(t *testing.T, g api.Grammar, want probe.Fault) {
	t.Helper()
	long := make([]api.Step, deriv.MaxSteps+1)
	for _, tree := range [][]api.Step{nil, sum(), long} {
		wantFault(t, "a tree", checkTree(t, g, tree), want)
		for _, tokens := range [][]int{nil, {1, 0, 1}, {-1}, make([]int, api.MaxTokens+1)} {
			wantFault(t, "Check", checkTokens(t, g, tokens, tree), want)
		}
	}
	for _, nonterm := range []int{0, -1, 60} {
		for _, rules := range [][]int{nil, {0, 1, 2, 2}, {-1}, make([]int, deriv.MaxSteps+1)} {
			wantFault(t, "Grow", checkGrow(t, g, nonterm, rules), want)
		}
	}
	for _, text := range []string{"", "(2 .1)", "(", "(999)", strings.Repeat("(", api.MaxText+1)} {
		wantFault(t, "Read", checkRead(t, g, text), want)
	}
}

// TestGrammarsThatMayNotBe: what is wrong with the grammar goes ahead of all else.
func TestGrammarsThatMayNotBe(t *testing.T) {
	for _, w := range probe.Wrongs(sums()) {
		checkAll(t, w.Grammar, grammarFault(w.Grammar))
		// Ahead of an empty right side, too.
		w.Grammar.Rules = append([]api.Rule{{}}, w.Grammar.Rules...)
		checkAll(t, w.Grammar, grammarFault(w.Grammar))
	}
}

// TestEmptyRightSides: the first one is told. Nonterminals side by side are no fault.
func TestEmptyRightSides(t *testing.T) {
	g := sums()
	g.Rules = append(g.Rules, probe.Rule(0), probe.Rule(1), probe.Rule(1, -1, -1))
	checkAll(t, g, probe.InRule(api.ErrNotOperator, 3))
	g.Rules[1].Right = []int{}
	checkAll(t, g, probe.InRule(api.ErrNotOperator, 1))
	g = probe.Read("S : S S | a")
	tree := steps(step(0, 0, 2), step(1, 0, 1), step(1, 1, 2))
	wantFault(t, "S S", checkTree(t, g, tree), probe.Bare(nil))
	wantFault(t, "S S", checkTokens(t, g, []int{0, 0}, tree), probe.Bare(nil))
	wantFault(t, "S S", checkGrow(t, g, 0, []int{0, 1, 1}), probe.Bare(nil))
	wantFault(t, "S S", checkRead(t, g, "(0 (1 .0) (1 .0))"), probe.Bare(nil))
}

// TestTooLong: one more than there may be, which goes ahead of whatever else is wrong with it, but for the grammar.
func TestTooLong(t *testing.T) {
	g, long := sums(), probe.Bare(api.ErrLong)
	for _, rule := range []int{0, 2, -1} {
		tree := slices.Repeat(steps(step(rule, 0, 1)), deriv.MaxSteps)
		wantFault(t, "steps", checkTree(t, g, tree), probe.Bare(api.ErrTree))
		wantFault(t, "steps", checkTokens(t, g, nil, tree), probe.Bare(api.ErrTree))
		wantFault(t, "steps", checkTokens(t, g, []int{2}, tree), probe.Bare(api.ErrArg))
		tree = append(tree, step(0, 0, 0))
		wantFault(t, "a step more", checkTree(t, g, tree), long)
		wantFault(t, "a step more", checkTokens(t, g, nil, tree), long)
		wantFault(t, "a step more", checkTokens(t, g, []int{2}, tree), long)
		rules := slices.Repeat([]int{rule}, deriv.MaxSteps)
		wantFault(t, "rules", checkGrow(t, g, 0, rules), probe.Bare(api.ErrTree))
		wantFault(t, "rules", checkGrow(t, g, 2, rules), probe.Bare(api.ErrArg))
		wantFault(t, "a rule more", checkGrow(t, g, 0, append(rules, 0)), long)
		wantFault(t, "a rule more", checkGrow(t, g, 2, append(rules, 0)), long)
	}
	for _, token := range []int{1, 0, 2, -1} {
		tokens := slices.Repeat([]int{token}, api.MaxTokens+1)
		for _, tree := range [][]api.Step{nil, sum(), sum()[:2]} {
			wantFault(t, "a token more", checkTokens(t, g, tokens, tree), long)
		}
	}
	wantFault(t, "tokens", checkTokens(t, g, make([]int, api.MaxTokens), sum()), probe.Bare(api.ErrTree))
	for _, part := range []string{"(", ")", "(999)", "(2 .1)", "x"} {
		text := strings.Repeat(part, api.MaxText/len(part)+1)
		wantFault(t, "a byte more", checkRead(t, g, text[:api.MaxText+1]), long)
		if f := checkRead(t, g, text[:api.MaxText]); f.Which != api.ErrSyntax {
			t.Errorf("bytes: %v", f)
		}
	}
}

// P18.1

func TestCheck(t *testing.T) {
	g := sums()
	cases := []struct {
		tokens []int
		tree   []api.Step
		want   error
	}{
		{[]int{1, 0, 1}, sum(), nil},
		{[]int{1}, steps(step(1, 0, 1), step(2, 0, 1)), nil},
		{[]int{1, 0, 1}, sum()[:3], api.ErrTree},
		{[]int{1}, steps(step(2, 0, 1)), api.ErrTree}, // T is not the axiom
		{[]int{1, 1, 1}, sum(), api.ErrTree},
		{[]int{1, 0}, sum(), api.ErrTree},
		{[]int{1, 0, 1, 0}, sum(), api.ErrTree},
		{[]int{1, 0, 1, 0, 1}, sum(), api.ErrTree},
		{nil, sum(), api.ErrTree},
		{nil, nil, api.ErrTree},
		{[]int{1}, nil, api.ErrTree},
		{[]int{1, 0, 1}, append(sum(), step(2, 2, 3)), api.ErrTree},
		{[]int{1, 0, 1}, append(sum(), sum()...), api.ErrTree},
		{[]int{1, 0, 1}, probe.Moved(sum(), 1), api.ErrTree},
		{[]int{1, 1, 0, 1}, probe.Moved(sum(), 1), api.ErrTree},
		{[]int{1, 0, 2}, sum(), api.ErrArg},
		{[]int{-1, 0, 1}, sum(), api.ErrArg},
		{[]int{1, math.MaxInt, 1}, nil, api.ErrArg},
		{[]int{1, 0, 1, math.MinInt}, sum(), api.ErrArg},
	}
	for _, c := range cases {
		wantFault(t, "Check", checkTokens(t, g, c.tokens, c.tree), probe.Bare(c.want))
	}
	g.Axiom = 1
	wantFault(t, "of T", checkTokens(t, g, []int{1}, steps(step(2, 0, 1))), probe.Bare(nil))
	wantFault(t, "of E", checkTokens(t, g, []int{1, 0, 1}, sum()), probe.Bare(api.ErrTree))
}

// P18.2

func TestTold(t *testing.T) {
	g := sums()
	for _, by := range []int{0, 1, 5, api.MaxTokens, math.MaxInt - 3} {
		tree := probe.Moved(sum(), by)
		wantFault(t, "i + i", checkTree(t, g, tree), probe.Bare(nil))
		tokens, _ := deriv.Frontier(g, tree)
		rules, _ := deriv.Rules(g, tree)
		depth, _ := deriv.Depth(g, tree)
		if !slices.Equal(tokens, []int{1, 0, 1}) || !slices.Equal(rules, []int{0, 1, 2, 2}) || depth != 3 {
			t.Errorf("i + i at %d: %v, %v, %d", by, tokens, rules, depth)
		}
	}
	for _, tree := range [][]api.Step{steps(step(2, 5, 6)), steps(step(1, 0, 1), step(2, 0, 1)), steps(step(2, math.MaxInt-1, math.MaxInt))} {
		wantFault(t, "a part", checkTree(t, g, tree), probe.Bare(nil))
	}
}

// TestNoTrees: of each what is nearly a tree.
func TestNoTrees(t *testing.T) {
	g := sums()
	cases := [][]api.Step{
		nil, {},
		steps(step(2, -1, 0)), probe.Moved(sum(), -1), probe.Moved(sum(), math.MinInt),
		steps(step(2, 0, 0)), steps(step(2, 0, 2)), steps(step(2, 1, 0)), steps(step(2, 5, 7)),
		steps(step(3, 0, 1)), steps(step(-1, 0, 1)), steps(step(math.MaxInt, 0, 1)), steps(step(math.MinInt, 0, 1)),
		// Places that wrap round.
		steps(step(2, math.MaxInt, math.MinInt)), probe.Moved(sum(), math.MaxInt), probe.Moved(sum(), math.MaxInt-1), probe.Moved(sum(), math.MaxInt-2),
		// A step less, one more.
		sum()[:1], sum()[:2], sum()[:3], sum()[1:], sum()[2:], append(sum(), step(2, 3, 4)), append(sum(), step(0, 0, 3)),
		// Another nonterminal's rule.
		steps(step(1, 0, 1), step(1, 0, 1)), steps(step(0, 0, 3), step(2, 0, 1), step(2, 2, 3)),
		// Out of order.
		steps(step(0, 0, 3), step(2, 2, 3), step(1, 0, 1), step(2, 0, 1)), steps(step(2, 0, 1), step(1, 0, 1)),
		// Intervals that don't touch, or not the one above them.
		steps(step(0, 0, 3), step(1, 0, 1), step(2, 0, 1), step(2, 1, 2)), steps(step(0, 0, 3), step(1, 1, 2), step(2, 1, 2), step(2, 2, 3)),
		steps(step(0, 0, 4), step(1, 0, 1), step(2, 0, 1), step(2, 2, 3)), steps(step(0, 0, 2), step(1, 0, 1), step(2, 0, 1), step(2, 2, 3)),
		steps(step(0, 1, 3), step(1, 0, 1), step(2, 0, 1), step(2, 2, 3)), steps(step(0, 0, 3), step(1, 0, 2), step(2, 0, 1), step(2, 2, 3)),
	}
	for _, tree := range cases {
		wantFault(t, "no tree", checkTree(t, g, tree), probe.Bare(api.ErrTree))
		wantFault(t, "no tree", checkTokens(t, g, []int{1, 0, 1}, tree), probe.Bare(api.ErrTree))
	}
	// Of no rules there are no trees.
	g.Rules = nil
	wantFault(t, "no rules", checkTree(t, g, sum()), probe.Bare(api.ErrTree))
	wantFault(t, "no rules", checkTree(t, g, nil), probe.Bare(api.ErrTree))
}

// P18.3

func TestGrow(t *testing.T) {
	g := sums()
	got, err := deriv.Grow(g, 0, []int{0, 1, 2, 2})
	if err != nil || !slices.Equal(got, sum()) {
		t.Errorf("i + i: %v, %v", got, err)
	}
	cases := []struct {
		nonterm int
		rules   []int
		want    error
	}{
		{0, []int{0, 1, 2, 2}, nil}, {1, []int{2}, nil}, {0, []int{1, 2}, nil}, {0, []int{0, 0, 1, 2, 2, 2}, nil},
		{0, []int{0, 1, 2}, api.ErrTree}, {0, []int{0, 1, 2, 2, 2}, api.ErrTree}, {0, []int{0}, api.ErrTree}, {0, nil, api.ErrTree}, {1, nil, api.ErrTree},
		{0, []int{2}, api.ErrTree}, {1, []int{1, 2}, api.ErrTree}, {1, []int{0, 1, 2, 2}, api.ErrTree}, {0, []int{0, 2, 1, 2}, api.ErrTree},
		{0, []int{3}, api.ErrTree}, {0, []int{-1}, api.ErrTree}, {0, []int{1, math.MaxInt}, api.ErrTree}, {0, []int{math.MinInt}, api.ErrTree},
		{2, nil, api.ErrArg}, {2, []int{2}, api.ErrArg}, {-1, []int{2}, api.ErrArg}, {-2, []int{2}, api.ErrArg},
		{math.MaxInt, []int{0, 1, 2, 2}, api.ErrArg}, {math.MinInt, []int{-1}, api.ErrArg},
	}
	for _, c := range cases {
		wantFault(t, "Grow", checkGrow(t, g, c.nonterm, c.rules), probe.Bare(c.want))
	}
}

// P18.4, P18.5

func TestTexts(t *testing.T) {
	g := sums()
	for text, tree := range map[string][]api.Step{
		"(0 (1 (2 .1)) .0 (2 .1))": sum(),
		"(2 .1)":                   steps(step(2, 0, 1)),
		"(1 (2 .1))":               steps(step(1, 0, 1), step(2, 0, 1)),
	} {
		got, err := deriv.Text(g, probe.Moved(tree, 9))
		if err != nil || got != text {
			t.Errorf("Text of %v: %q, %v", tree, got, err)
		}
		read, err := deriv.Read(g, text)
		if err != nil || !slices.Equal(read, tree) {
			t.Errorf("Read of %q: %v, %v", text, read, err)
		}
	}
}

func TestNoTexts(t *testing.T) {
	cases := []struct {
		text string
		at   int
		want error
	}{
		{"", 0, api.ErrSyntax}, {"2", 0, api.ErrSyntax}, {")", 0, api.ErrSyntax}, {" (2 .1)", 0, api.ErrSyntax}, {".1", 0, api.ErrSyntax},
		{"(", 1, api.ErrSyntax}, {"()", 1, api.ErrSyntax}, {"( 2 .1)", 1, api.ErrSyntax}, {"((", 1, api.ErrSyntax}, {"(.", 1, api.ErrSyntax}, {"(-1 .1)", 1, api.ErrSyntax}, {"(+2 .1)", 1, api.ErrSyntax}, {"(x", 1, api.ErrSyntax},
		{"(2", 2, api.ErrSyntax}, {"(02 .1)", 2, api.ErrSyntax}, {"(00 .1)", 2, api.ErrSyntax}, {"(2.1)", 2, api.ErrSyntax}, {"(2(", 2, api.ErrSyntax}, {"(2\t.1)", 2, api.ErrSyntax}, {"(2:", 2, api.ErrSyntax}, {"(2/", 2, api.ErrSyntax},
		{"(2 ", 3, api.ErrSyntax}, {"(2  .1)", 3, api.ErrSyntax}, {"(2 )", 3, api.ErrSyntax}, {"(2 1)", 3, api.ErrSyntax},
		{"(2 .", 4, api.ErrSyntax}, {"(2 .)", 4, api.ErrSyntax}, {"(2 . 1)", 4, api.ErrSyntax}, {"(2 ..1)", 4, api.ErrSyntax}, {"(2 .-1)", 4, api.ErrSyntax}, {"(2 ()", 4, api.ErrSyntax},
		{"(2 .1", 5, api.ErrSyntax}, {"(2 .01)", 5, api.ErrSyntax}, {"(2 .1.", 5, api.ErrSyntax}, {"(2 .1(", 5, api.ErrSyntax}, {"(2 .1\n)", 5, api.ErrSyntax}, {"(2 .1\xff", 5, api.ErrSyntax},
		{"(2 .1))", 6, api.ErrSyntax}, {"(2 .1) ", 6, api.ErrSyntax}, {"(2 .1)(2 .1)", 6, api.ErrSyntax}, {"(2 .1)1", 6, api.ErrSyntax}, {"(2 .1)\x00", 6, api.ErrSyntax},
		{"(1000)", 4, api.ErrSyntax}, {"(1200", 4, api.ErrSyntax}, {"(999", 4, api.ErrSyntax}, {"(2 .1000)", 7, api.ErrSyntax}, {"(2 .99", 6, api.ErrSyntax},
		{"(1 (2 .1)", 9, api.ErrSyntax}, {"(1 (2 .1)(", 9, api.ErrSyntax}, {"(1 (2 .1).", 9, api.ErrSyntax}, {"(1 (2 .1) ", 10, api.ErrSyntax}, {"(1 (2 .1) )", 10, api.ErrSyntax},
		// A byte that is wrong goes ahead of a number that is too high.
		{"(999 (2 .1)", 11, api.ErrSyntax}, {"(999))", 5, api.ErrSyntax},
		{"(999)", probe.None, api.ErrLong}, {"(121)", probe.None, api.ErrLong}, {"(121 .1)", probe.None, api.ErrLong}, {"(2 .1 (121))", probe.None, api.ErrLong}, {"(1 (300 .1))", probe.None, api.ErrLong},
		{"(120)", probe.None, api.ErrTree}, {"(3 .1)", probe.None, api.ErrTree}, {"(2)", probe.None, api.ErrTree}, {"(0)", probe.None, api.ErrTree}, {"(12 .1)", probe.None, api.ErrTree}, {"(1 (120 .1))", probe.None, api.ErrTree},
		{"(2 .0)", probe.None, api.ErrTree}, {"(2 .2)", probe.None, api.ErrTree}, {"(2 .11)", probe.None, api.ErrTree}, {"(2 .999)", probe.None, api.ErrTree}, {"(2 .121)", probe.None, api.ErrTree},
		{"(2 .1 .1)", probe.None, api.ErrTree}, {"(1 .1)", probe.None, api.ErrTree}, {"(1 (1 (2 .1)))", probe.None, api.ErrTree}, {"(1 (2))", probe.None, api.ErrTree}, {"(1 (2 .1) .0)", probe.None, api.ErrTree},
		{"(2 (2 .1))", probe.None, api.ErrTree}, {"(2 .1 (2 .1))", probe.None, api.ErrTree}, {"(2 (2))", probe.None, api.ErrTree},
		// The right rules, but not at their places.
		{"(0 (1 (2 .1) .0 (2 .1)))", probe.None, api.ErrTree}, {"(0 (1 (2 .1)) (2 .1))", probe.None, api.ErrTree}, {"(0 (1 (2 .1)) .0 .0 (2 .1))", probe.None, api.ErrTree}, {"(0 (1 (2 .1)) .1 (2 .1))", probe.None, api.ErrTree},
		{"(0 (1 (2 .1 .0 (2 .1))))", probe.None, api.ErrTree}, {"(0 .0 (1 (2 .1)) (2 .1))", probe.None, api.ErrTree}, {"(0 (1 (2 .1)) .0 (2 .0))", probe.None, api.ErrTree},
	}
	for _, c := range cases {
		wantFault(t, c.text, checkRead(t, sums(), c.text), probe.AtPlace(c.want, c.at))
	}
}

// TestErrorsAsTheyAre: that of a place is wrapped, with ErrSyntax itself in them; all others but the grammar's are bare.
func TestErrorsAsTheyAre(t *testing.T) {
	g := sums()
	_, err := deriv.Read(g, "(2 .1")
	if p, ok := err.(*api.PlaceError); !ok || p.Err != api.ErrSyntax {
		t.Errorf("%v", err)
	}
	for text, want := range map[string]error{"(999)": api.ErrLong, "(2 .0)": api.ErrTree, "(2 .1)": nil} {
		if _, err := deriv.Read(g, text); err != want {
			t.Errorf("%s: %v", text, err)
		}
	}
	if _, err := deriv.Grow(g, 2, nil); err != api.ErrArg {
		t.Errorf("Grow: %v", err)
	}
	g.Rules[2].Right = nil
	if r, ok := deriv.Check(g, nil, nil).(*api.RuleError); !ok || r.Err != api.ErrNotOperator || r.Rule != 2 {
		t.Errorf("an empty right side: %v", r)
	}
}
