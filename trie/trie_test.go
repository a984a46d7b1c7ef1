package trie_test

import (
	"math"
	"slices"
	"testing"

	"dovetail/api"
	"dovetail/gram"
	"dovetail/normal"
	"dovetail/probe"
	"dovetail/trie"
)

// given are the rules of the chapter's examples.
func given() []api.Rule {
	return []api.Rule{probe.Rule(7, 1, 2), probe.Rule(0, 1), probe.Rule(-3, -1, 2)}
}

func mustBuild(t *testing.T, rules []api.Rule) *trie.Trie {
	t.Helper()
	x, err := trie.Build(rules)
	if err != nil || x == nil {
		t.Fatalf("Build of %v: %v, %v", rules, x, err)
	}
	return x
}

// checkTwice wants ErrArg with that rule, and no trie.
func checkTwice(t *testing.T, rules []api.Rule, rule int) {
	t.Helper()
	x, err := trie.Build(rules)
	if x != nil || probe.Which(err) != api.ErrArg || probe.RuleOf(err) != rule {
		t.Errorf("Build of %v: %v, %v, want ErrArg in rule %d", rules, x, err, rule)
	}
}

// checkFind wants a rule, or, of probe.None, none.
func checkFind(t *testing.T, x *trie.Trie, right []int, want int) {
	t.Helper()
	n, ok := x.Find(right)
	checkOne(t, "Find", right, n, ok, want)
}

func checkRule(t *testing.T, x *trie.Trie, node, want int) {
	t.Helper()
	n, ok := x.Rule(node)
	checkOne(t, "Rule", []int{node}, n, ok, want)
}

func checkStep(t *testing.T, x *trie.Trie, node, symbol, want int) {
	t.Helper()
	n, ok := x.Step(node, symbol)
	checkOne(t, "Step", []int{node, symbol}, n, ok, want)
}

// checkOne wants a number and true, or, of probe.None, 0 and false.
func checkOne(t *testing.T, call string, of []int, got int, ok bool, want int) {
	t.Helper()
	if ok != (want != probe.None) || got != max(want, 0) {
		t.Errorf("%s(%v) = %d, %v, want %d", call, of, got, ok, want)
	}
}

// nextOf is what Next tells of a node.
func nextOf(x *trie.Trie, node int) []pair {
	var list []pair
	for symbol, next := range x.Next(node) {
		list = append(list, pair{symbol, next})
	}
	return list
}

func checkNext(t *testing.T, x *trie.Trie, node int, want ...pair) {
	t.Helper()
	if got := nextOf(x, node); !slices.Equal(got, want) {
		t.Errorf("Next(%d): %v, want %v", node, got, want)
	}
}

func checkEach(t *testing.T, x *trie.Trie, want ...int) {
	t.Helper()
	if got := slices.Collect(x.Each()); !slices.Equal(got, want) {
		t.Errorf("Each: %v, want %v", got, want)
	}
}

// orNone is what two results tell, as one number.
func orNone(number int, ok bool) int {
	if !ok {
		return probe.None
	}
	return number
}

// checkModel asks a trie of all that the model knows.
func checkModel(t *testing.T, x *trie.Trie, m model) {
	t.Helper()
	if x.Len() != len(m.nodes) {
		t.Fatalf("Len of %v: %d, want %d", m.rules, x.Len(), len(m.nodes))
	}
	numbers := m.numbers()
	for _, node := range numbers {
		checkRule(t, x, node, orNone(m.rule(node)))
		checkNext(t, x, node, m.next(node)...)
		for _, symbol := range numbers {
			checkStep(t, x, node, symbol, orNone(m.step(node, symbol)))
		}
	}
	checkEach(t, x, m.each()...)
	for _, beginning := range m.nodes {
		checkFind(t, x, beginning, orNone(m.find(beginning)))
		for _, symbol := range numbers {
			longer := append(slices.Clone(beginning), symbol)
			checkFind(t, x, longer, orNone(m.find(longer)))
		}
	}
	if t.Failed() {
		t.Fatalf("the trie of %v", m.rules)
	}
}

// P11.1

func TestBuild(t *testing.T) {
	cases := []struct {
		sides [][]int
		size  int
	}{
		{nil, 1},
		{[][]int{{}}, 1},
		{[][]int{{0}}, 2},
		{[][]int{{0, 0, 0}}, 4},
		{[][]int{{0}, {0, 0}, {}}, 3},
		{[][]int{{0, 1}, {0, 2}, {1, 1}}, 6},
		{[][]int{{5, 5, 5}, {5, 6, 5}, {6, 5, 5}}, 9},
		{[][]int{{-1}, {1}, {math.MinInt}, {math.MaxInt}}, 5},
	}
	for _, c := range cases {
		if x := mustBuild(t, rulesOf(c.sides...)); x.Len() != c.size {
			t.Errorf("Len of %v: %d, want %d", c.sides, x.Len(), c.size)
		}
	}
}

// The empty list is a node without rules, too, and never a rule's unless one has it.
func TestBuildOfNothing(t *testing.T) {
	for _, rules := range [][]api.Rule{nil, {}} {
		x := mustBuild(t, rules)
		checkModel(t, x, modelOf(nil))
		checkRule(t, x, 0, probe.None)
		checkFind(t, x, nil, probe.None)
	}
	for _, right := range [][]int{nil, {}} {
		x := mustBuild(t, []api.Rule{{Right: right}})
		checkRule(t, x, 0, 0)
		checkFind(t, x, nil, 0)
		checkFind(t, x, []int{}, 0)
		checkEach(t, x, 0)
		checkNext(t, x, 0)
	}
}

// TestBuildLeavesLeftsAlone: rules of one Left, of many, and of Lefts that are no numbers of nonterminals.
func TestBuildLeavesLeftsAlone(t *testing.T) {
	for _, rules := range slices.Concat(apart(smallRules())[:500], apart(mixedRules())[:100]) {
		want := modelOf(rules)
		for _, lefts := range [][]int{{0}, {1, 0}, {math.MinInt, -1, math.MaxInt}} {
			turned := slices.Clone(rules)
			for n := range turned {
				turned[n].Left = lefts[n%len(lefts)]
			}
			checkModel(t, mustBuild(t, turned), want)
		}
	}
	checkTwice(t, []api.Rule{probe.Rule(0, 1), probe.Rule(1, 1)}, 1)
}

func TestBuildOfOneRightSideTwice(t *testing.T) {
	cases := []struct {
		sides [][]int
		rule  int
	}{
		{[][]int{{}, nil}, 1},
		{[][]int{nil, {}}, 1},
		{[][]int{{1}, {1}}, 1},
		{[][]int{{1}, {1}, {1}}, 1},
		{[][]int{{1, 2}, {1}, {-1, 2}, {1, 2}}, 3},
		{[][]int{{1}, {2}, {2}, {1}}, 2},
		{[][]int{{2}, {1}, {1}, {2}}, 2},
		{[][]int{{1}, {2}, {1}, {2}}, 2},
		{[][]int{{2}, {1}, {2}, {1}}, 2},
		{[][]int{{3}, {2}, {1}, {3}, {2}, {1}}, 3},
		{[][]int{{1}, {2}, {3}, {3}, {2}, {1}}, 3},
		{[][]int{{0}, {0, 0}, {0, 0, 0}, {0, 0}}, 3},
		{[][]int{{0, 0}, {}, {0}, {}, {0}}, 3},
		{[][]int{{math.MinInt, math.MaxInt}, {math.MaxInt, math.MinInt}, {math.MinInt, math.MaxInt}}, 2},
	}
	for _, c := range cases {
		checkTwice(t, rulesOf(c.sides...), c.rule)
	}
}

// checkBuild holds what is built against the chapter's words, and tells whether it is a trie.
func checkBuild(t *testing.T, rules []api.Rule) bool {
	t.Helper()
	if rule := twice(rules); rule != probe.None {
		checkTwice(t, rules, rule)
		return false
	}
	checkModel(t, mustBuild(t, rules), modelOf(rules))
	return true
}

func TestManyRules(t *testing.T) {
	built, refused := 0, 0
	for _, rules := range slices.Concat(smallRules(), mixedRules()) {
		if checkBuild(t, rules) {
			built++
		} else {
			refused++
		}
	}
	if built < 1900 || refused < 600 {
		t.Errorf("%d tries, and %d lists with a right side twice", built, refused)
	}
}

// TestOneRightSideAddedAnywhere: the later one of the two is told, wherever they stand.
func TestOneRightSideAddedAnywhere(t *testing.T) {
	for _, rules := range apart(mixedRules())[:120] {
		for n, r := range rules {
			for at := range len(rules) + 1 {
				more := slices.Insert(slices.Clone(rules), at, probe.Rule(1, r.Right...))
				checkTwice(t, more, max(at, n+1))
			}
		}
	}
}

// P11.2

func TestStepRuleFind(t *testing.T) {
	x := mustBuild(t, rulesOf([]int{4, -2, 4}, []int{4}, []int{-2, 4}, []int{-2, 7}))
	// The nodes: none, -2, -2 4, -2 7, 4, 4 -2, 4 -2 4.
	for node, steps := range [][]pair{{{-2, 1}, {4, 4}}, {{4, 2}, {7, 3}}, nil, nil, {{-2, 5}}, {{4, 6}}, nil} {
		for symbol := -9; symbol < 10; symbol++ {
			want := probe.None
			for _, s := range steps {
				if s.symbol == symbol {
					want = s.node
				}
			}
			checkStep(t, x, node, symbol, want)
		}
	}
	for node, rule := range []int{probe.None, probe.None, 2, 3, 1, probe.None, 0} {
		checkRule(t, x, node, rule)
	}
	for _, c := range []struct {
		right []int
		want  int
	}{
		{nil, probe.None}, {[]int{4}, 1}, {[]int{4, -2}, probe.None}, {[]int{4, -2, 4}, 0}, {[]int{4, -2, 4, 4}, probe.None},
		{[]int{-2}, probe.None}, {[]int{-2, 4}, 2}, {[]int{-2, 7}, 3}, {[]int{7}, probe.None}, {[]int{7, -2, 4}, probe.None}, {[]int{0}, probe.None},
	} {
		checkFind(t, x, c.right, c.want)
	}
}

// TestNodesThatThereAreNot: below 0, behind the last one, at the ends of what numbers there are.
func TestNodesThatThereAreNot(t *testing.T) {
	for _, rules := range [][]api.Rule{nil, {{}}, given(), rulesOf([]int{0, 0, 0}), rulesOf([]int{-1, math.MinInt}, []int{math.MaxInt})} {
		x := mustBuild(t, rules)
		for _, node := range []int{-1, -2, math.MinInt, math.MinInt + 1, x.Len(), x.Len() + 1, 1 << 32, -1 << 32, math.MaxInt} {
			for _, symbol := range []int{0, 1, 2, -1, math.MinInt, math.MaxInt} {
				checkStep(t, x, node, symbol, probe.None)
			}
			checkRule(t, x, node, probe.None)
			checkNext(t, x, node)
		}
	}
}

// A right side that goes on behind a step that leads nowhere is none, though a beginning of it, or what is left without that symbol, is one.
func TestFindStopsAtTheFirstFault(t *testing.T) {
	x := mustBuild(t, rulesOf([]int{1, 2}, []int{2}, []int{1}, nil))
	for _, right := range [][]int{{9}, {9, 1}, {9, 1, 2}, {1, 9}, {1, 9, 2}, {2, 9}, {1, 2, 9}, {2, 1}, {1, 1}, {2, 2}, {9, 9, 9, 2}} {
		checkFind(t, x, right, probe.None)
	}
}

// P11.3

func TestNextAndEach(t *testing.T) {
	x := mustBuild(t, rulesOf([]int{5}, []int{-5, 1}, []int{}, []int{math.MaxInt}, []int{5, 0}, []int{math.MinInt}, []int{-5, -1}, []int{5, -9, 3}))
	checkNext(t, x, 0, pair{math.MinInt, 1}, pair{-5, 2}, pair{5, 5}, pair{math.MaxInt, 9})
	checkNext(t, x, 1)
	checkNext(t, x, 2, pair{-1, 3}, pair{1, 4})
	checkNext(t, x, 5, pair{-9, 6}, pair{0, 8})
	checkNext(t, x, 6, pair{3, 7})
	checkEach(t, x, 2, 5, 6, 1, 0, 7, 4, 3)
	checkEach(t, mustBuild(t, nil))
	checkEach(t, mustBuild(t, rulesOf([]int{0})), 0)
}

// TestSequencesAreLeftEarly: after any number of elements; and nothing is told once one is left.
func TestSequencesAreLeftEarly(t *testing.T) {
	for _, rules := range slices.Concat(apart(smallRules())[:300], apart(mixedRules())[:100]) {
		x, m := mustBuild(t, rules), modelOf(rules)
		for size := range len(rules) {
			checkEachLeft(t, x, size+1, m.each())
		}
		for node := range x.Len() {
			for size := range m.next(node) {
				checkNextLeft(t, x, node, size+1, m.next(node))
			}
		}
	}
}

func checkEachLeft(t *testing.T, x *trie.Trie, size int, want []int) {
	t.Helper()
	var got []int
	x.Each()(func(rule int) bool {
		got = append(got, rule)
		return len(got) < size
	})
	if !slices.Equal(got, want[:size]) {
		t.Fatalf("Each, left after %d: %v, want %v", size, got, want[:size])
	}
}

func checkNextLeft(t *testing.T, x *trie.Trie, node, size int, want []pair) {
	t.Helper()
	var got []pair
	x.Next(node)(func(symbol, next int) bool {
		got = append(got, pair{symbol, next})
		return len(got) < size
	})
	if !slices.Equal(got, want[:size]) {
		t.Fatalf("Next(%d), left after %d: %v, want %v", node, size, got, want[:size])
	}
}

// TestSequencesAreGoneOverAgain: one sequence, again, behind one that was left, and inside itself.
func TestSequencesAreGoneOverAgain(t *testing.T) {
	rules := rulesOf([]int{3, 3}, []int{1}, []int{2}, []int{3}, []int{0, 5})
	x, m := mustBuild(t, rules), modelOf(rules)
	each, next := x.Each(), x.Next(0)
	for range 3 {
		for range each {
			break
		}
		for range next {
			break
		}
		var outer []int
		for rule := range each {
			outer = append(outer, rule)
			if inner := slices.Collect(each); !slices.Equal(inner, m.each()) {
				t.Fatalf("Each inside itself: %v", inner)
			}
		}
		var pairs []pair
		for symbol, node := range next {
			pairs = append(pairs, pair{symbol, node})
			count := 0
			for range next {
				count++
			}
			if count != 4 {
				t.Fatalf("Next inside itself: %d symbols", count)
			}
		}
		if !slices.Equal(outer, m.each()) || !slices.Equal(pairs, m.next(0)) {
			t.Errorf("again: %v, %v", outer, pairs)
		}
	}
}

// P11.4

func TestFindIsStepsAndRule(t *testing.T) {
	for _, rules := range slices.Concat(apart(smallRules()), apart(mixedRules())) {
		x := mustBuild(t, rules)
		for n, r := range rules {
			checkFind(t, x, r.Right, n)
		}
		for _, right := range probe.Sides(3, -1, 0, 2, 1) {
			node, ok := 0, true
			for _, symbol := range right {
				if ok {
					node, ok = x.Step(node, symbol)
				}
			}
			want := probe.None
			if ok {
				want = orNone(x.Rule(node))
			}
			checkFind(t, x, right, want)
		}
	}
}

// walked are the nodes in the order in which steps over rising symbols lead to them, each ahead of those behind it.
func walked(x *trie.Trie, node int) []int {
	list := []int{node}
	for _, next := range x.Next(node) {
		list = append(list, walked(x, next)...)
	}
	return list
}

// TestStepsRise: a walk over rising symbols meets the nodes by their numbers, each once.
func TestStepsRise(t *testing.T) {
	for _, rules := range slices.Concat(apart(smallRules()), apart(mixedRules())) {
		x := mustBuild(t, rules)
		nodes := walked(x, 0)
		for n, node := range nodes {
			if n != node {
				t.Fatalf("%v: the nodes %v", rules, nodes)
			}
		}
		if len(nodes) != x.Len() {
			t.Fatalf("%v: %d nodes are reached, of %d", rules, len(nodes), x.Len())
		}
	}
}

// TestOtherOrders: the nodes and steps are the same, and each node's rule is the same one under its new number.
func TestOtherOrders(t *testing.T) {
	var numbers probe.Numbers
	for _, rules := range slices.Concat(apart(smallRules()), apart(mixedRules())) {
		x := mustBuild(t, rules)
		order := numbers.Order(len(rules))
		moved := make([]api.Rule, len(rules))
		for n, k := range order {
			moved[n] = rules[k]
		}
		y := mustBuild(t, moved)
		if x.Len() != y.Len() {
			t.Fatalf("%v: %d and %d nodes", rules, x.Len(), y.Len())
		}
		for node := range x.Len() {
			if !slices.Equal(nextOf(x, node), nextOf(y, node)) {
				t.Fatalf("%v: behind %d: %v and %v", rules, node, nextOf(x, node), nextOf(y, node))
			}
			rule, ok := y.Rule(node)
			if ok {
				rule = order[rule]
			}
			checkRule(t, x, node, orNone(rule, ok))
		}
	}
}

// TestNormalForms: no two rules of a normal form have one right side, and they stand by rising right sides.
func TestNormalForms(t *testing.T) {
	for _, text := range []string{"E : E + T | T; T : i | ( E )", "S : a S b | a b", "E : E + T | T; T : T * F | F; F : ( E ) | i", "S : S; A : S"} {
		n, err := normal.Of(probe.Read(text))
		if err != nil {
			t.Fatal(err)
		}
		checkBuild(t, n.Rules)
		order := slices.Collect(mustBuild(t, n.Rules).Each())
		if len(order) != len(n.Rules) || !slices.IsSorted(order) {
			t.Errorf("%s: Each: %v", text, order)
		}
	}
}

// Many rules

// counted is a right side whose symbols are the digits of a number, the least ones last.
func counted(number, base, size int) []int {
	right := make([]int, size)
	for at := range right {
		right[size-1-at] = number % base
		number /= base
	}
	return right
}

// TestManyNodes: all right sides of 16 symbols of two, from the greatest on; and one of them once more.
func TestManyNodes(t *testing.T) {
	const size = 1 << 16
	rules := make([]api.Rule, size)
	for n := range rules {
		rules[n].Right = counted(size-1-n, 2, 16)
	}
	x := mustBuild(t, rules)
	if x.Len() != 2*size-1 {
		t.Errorf("Len: %d", x.Len())
	}
	want := size
	for rule := range x.Each() {
		want--
		if rule != want {
			t.Fatalf("Each: %d, want %d", rule, want)
		}
	}
	for _, n := range []int{0, 1, 12345, size - 1} {
		checkFind(t, x, rules[n].Right, n)
	}
	checkNext(t, x, 0, pair{0, 1}, pair{1, size})
	checkTwice(t, append(rules, rules[size-1], rules[0]), size)
}

// TestLongRightSides: a right side of very many symbols, one that leaves it at its end, and its beginnings.
func TestLongRightSides(t *testing.T) {
	const size = 1 << 18
	long := slices.Repeat([]int{3}, size)
	other := slices.Clone(long)
	other[size-1] = 2
	x := mustBuild(t, rulesOf(long, long[:size/2], other))
	if x.Len() != size+2 {
		t.Errorf("Len: %d", x.Len())
	}
	checkEach(t, x, 1, 2, 0)
	checkNext(t, x, size-1, pair{2, size}, pair{3, size + 1})
	for n, right := range [][]int{long, long[:size/2], other} {
		checkFind(t, x, right, n)
	}
	checkFind(t, x, long[:size-1], probe.None)
	checkFind(t, x, append(long, 3), probe.None)
	checkTwice(t, rulesOf(other, long, slices.Clone(long)), 2)
}

// TestManySymbolsBehindOneNode: as many as there are rules, handed in with the greatest first.
func TestManySymbolsBehindOneNode(t *testing.T) {
	const size = 1 << 17
	rules := make([]api.Rule, size)
	for n := range rules {
		rules[n] = probe.Rule(0, size/2-n)
	}
	x := mustBuild(t, rules)
	want := pair{size/2 - size, 0}
	for symbol, node := range x.Next(0) {
		want = pair{want.symbol + 1, want.node + 1}
		if want != (pair{symbol, node}) {
			t.Fatalf("Next: %d %d, want %v", symbol, node, want)
		}
	}
	if want.node != size || x.Len() != size+1 {
		t.Errorf("%d symbols, %d nodes", want.node, x.Len())
	}
}

// P11.5

func TestNilTrie(t *testing.T) {
	for _, x := range []*trie.Trie{nil, {}} {
		if x.Len() != 0 {
			t.Errorf("Len: %d", x.Len())
		}
		for _, node := range []int{0, 1, -1, math.MinInt, math.MaxInt} {
			checkRule(t, x, node, probe.None)
			checkStep(t, x, node, 0, probe.None)
			checkNext(t, x, node)
		}
		for _, right := range [][]int{nil, {}, {0}, {-1, 2}} {
			checkFind(t, x, right, probe.None)
		}
		checkEach(t, x)
	}
}

// ask makes all calls on a trie.
func ask(x *trie.Trie, right []int) {
	x.Len()
	x.Find(right)
	for node := range x.Len() {
		x.Rule(node)
		for _, symbol := range right {
			x.Step(node, symbol)
		}
		nextOf(x, node)
	}
	for range x.Each() {
	}
}

func TestNothingIsChanged(t *testing.T) {
	for _, rules := range slices.Concat(smallRules(), mixedRules()) {
		g := probe.Roomy(api.Grammar{Rules: rules})
		before := gram.Copy(probe.Whole(g))
		x, _ := trie.Build(g.Rules)
		for _, r := range g.Rules {
			ask(x, r.Right)
		}
		if !gram.Same(before, probe.Whole(g)) {
			t.Fatalf("%v is changed to %v", before.Rules, probe.Whole(g).Rules)
		}
	}
}

// TestNothingIsKept: what was handed in may be changed later, with the room behind it, and the trie is as it was; so are its sequences.
func TestNothingIsKept(t *testing.T) {
	for _, rules := range slices.Concat(apart(smallRules()), apart(mixedRules())) {
		g := probe.Roomy(api.Grammar{Rules: rules})
		x := mustBuild(t, g.Rules)
		each, next := x.Each(), x.Next(0)
		for n, r := range g.Rules {
			side := r.Right[:cap(r.Right)]
			for at := range side {
				side[at] = 99 + at
			}
			g.Rules[n] = api.Rule{}
		}
		checkModel(t, x, modelOf(rules))
		if got := slices.Collect(each); !slices.Equal(got, modelOf(rules).each()) {
			t.Fatalf("Each of %v became %v", rules, got)
		}
		var pairs []pair
		for symbol, node := range next {
			pairs = append(pairs, pair{symbol, node})
		}
		if !slices.Equal(pairs, modelOf(rules).next(0)) {
			t.Fatalf("Next of %v became %v", rules, pairs)
		}
	}
}

// TestFindKeepsNothing: what is looked for is no node afterwards.
func TestFindKeepsNothing(t *testing.T) {
	x := mustBuild(t, given())
	for _, right := range probe.Sides(4, -1, 1, 2) {
		ask(x, right)
		right = append(right, 5)
		x.Find(right)
	}
	checkModel(t, x, modelOf(given()))
}

// TestTriesAreApart: one that is built later, of the same rules, of others, or of ones that are refused, changes nothing in one that there is.
func TestTriesAreApart(t *testing.T) {
	lists := apart(mixedRules())[:60]
	var tries []*trie.Trie
	for _, rules := range lists {
		x, y := mustBuild(t, rules), mustBuild(t, rules)
		if x == y {
			t.Fatalf("%v: one trie twice", rules)
		}
		tries = append(tries, x)
		wrong := append(slices.Clone(rules), probe.Rule(0, 1), probe.Rule(0, 1))
		checkTwice(t, wrong, twice(wrong))
	}
	for n, x := range tries {
		checkModel(t, x, modelOf(lists[n]))
	}
}

// TestExamples is the table of chapter 11.
func TestExamples(t *testing.T) {
	x := mustBuild(t, given())
	if x.Len() != 5 {
		t.Errorf("Len: %d", x.Len())
	}
	checkModel(t, x, model{rules: given(), nodes: [][]int{nil, {-1}, {-1, 2}, {1}, {1, 2}}})
	checkStep(t, x, 0, 1, 3)
	checkStep(t, x, 3, 2, 4)
	checkStep(t, x, 0, 2, probe.None)
	checkStep(t, x, 9, 1, probe.None)
	checkRule(t, x, 0, probe.None)
	checkRule(t, x, 2, 2)
	checkRule(t, x, 3, 1)
	checkFind(t, x, []int{1, 2}, 0)
	checkFind(t, x, []int{2}, probe.None)
	checkFind(t, x, nil, probe.None)
	checkNext(t, x, 0, pair{-1, 1}, pair{1, 3})
	checkEach(t, x, 2, 1, 0)
	checkTwice(t, append(given(), probe.Rule(0, 1, 2)), 3)
	if one := mustBuild(t, nil); one.Len() != 1 {
		t.Errorf("Len of no rules: %d", one.Len())
	}
}
