package parse_test

import (
	"slices"
	"testing"

	"dovetail/api"
	"dovetail/parse"
	"dovetail/probe"
	"dovetail/tables"
)

// Runs by the chapters' words

// item is a symbol of the normal form over an interval, and of a nonterminal its tree.
type item struct {
	symbol, from, to int
	tree             []api.Step
}

// model is a run: the end stands ahead of its items.
type model struct {
	x     *tables.Tables
	rules []api.Rule
	items []item
	made  []api.Step
}

// modelRun is what is to be answered of a run. Nothing that layer 16 does is used.
func modelRun(x *tables.Tables, tokens []int) (parse.Run, probe.Fault) {
	if x == nil {
		return parse.Run{}, probe.Bare(api.ErrArg)
	}
	if len(tokens) > 65536 {
		return parse.Run{}, probe.Bare(api.ErrLong)
	}
	if slices.ContainsFunc(tokens, func(token int) bool { return token < 0 || token >= x.Terms() }) {
		return parse.Run{}, probe.Bare(api.ErrArg)
	}
	m := &model{x: x, rules: x.Normal().Rules, items: []item{{symbol: x.Terms()}}}
	for at, token := range tokens {
		if !m.gives(token) {
			return parse.Run{Shifts: at, Made: m.made}, probe.AtPlace(api.ErrRefused, at)
		}
		m.items = append(m.items, item{symbol: token, from: at, to: at + 1})
	}
	r := parse.Run{Shifts: len(tokens)}
	right := m.gives(x.Terms()) && m.isWhole()
	r.Made = m.made
	if !right {
		return r, probe.AtPlace(api.ErrRefused, len(tokens))
	}
	r.Tree = m.items[1].tree
	return r, probe.Bare(nil)
}

// isWhole tells whether one node alone stands behind the end, of a set where the normal form starts.
func (m *model) isWhole() bool {
	return len(m.items) == 2 && m.items[1].symbol < 0 && m.x.Start(-1-m.items[1].symbol)
}

// gives reduces till nothing takes a terminal that comes next, and tells whether it can stand there.
func (m *model) gives(next int) bool {
	for {
		relations, at := m.relations(next)
		if len(at) == 2 && next == m.x.Terms() {
			// The end has no relation to itself.
			return true
		}
		if slices.Contains(relations, api.None) {
			return false
		}
		last := slices.Index(relations, api.Takes)
		if last < 0 {
			return true
		}
		first := last - 1
		for relations[first] == api.Equal {
			first--
		}
		// Behind the terminal that yields, up to the next one behind those that are equal.
		if !m.reduce(at[first]+1, at[last+1]) {
			return false
		}
	}
}

// relations are those of each terminal to the next one, the one that comes last, and where among the items these terminals stand, the one that comes behind all.
func (m *model) relations(next int) (relations, at []int) {
	for k, i := range m.items {
		if i.symbol < 0 {
			continue
		}
		if len(at) > 0 {
			relations = append(relations, m.x.Relation(m.items[at[len(at)-1]].symbol, i.symbol))
		}
		at = append(at, k)
	}
	relations = append(relations, m.x.Relation(m.items[at[len(at)-1]].symbol, next))
	return relations, append(at, len(m.items))
}

// reduce makes the items of an interval of them one.
func (m *model) reduce(first, behind int) bool {
	var right []int
	var trees []api.Step
	for _, i := range m.items[first:behind] {
		right = append(right, i.symbol)
		trees = append(trees, i.tree...)
	}
	rule := slices.IndexFunc(m.rules, func(r api.Rule) bool { return slices.Equal(r.Right, right) })
	if rule < 0 {
		return false
	}
	s := step(rule, m.items[first].from, m.items[behind-1].to)
	m.made = append(m.made, s)
	node := item{symbol: -1 - m.rules[rule].Left, from: s.From, to: s.To, tree: append(steps(s), trees...)}
	m.items = slices.Replace(m.items, first, behind, node)
	return true
}

// The checks of one run

func sameRun(a, b parse.Run) bool {
	return a.Shifts == b.Shifts && slices.Equal(a.Made, b.Made) && slices.Equal(a.Tree, b.Tree)
}

// checkRun wants that of both calls, and of what they answer all that the chapter promises of runs.
func checkRun(t *testing.T, x *tables.Tables, tokens []int, want parse.Run, fault probe.Fault) {
	t.Helper()
	got, err := parse.Parse(x, tokens)
	if probe.FaultOf(err) != fault || !sameRun(got, want) {
		t.Fatalf("Parse of %v: %v, %v, want %v, %v", brief(tokens), got, err, want, fault)
	}
	if got := parse.Accepts(x, tokens); got != (fault.Which == nil) {
		t.Fatalf("Accepts of %v: %v", brief(tokens), got)
	}
	checkWork(t, tokens, got)
	if err == nil {
		checkAccepted(t, x, tokens, got)
	}
}

// checkAsModel holds a run against the words, and answers what is wrong with it.
func checkAsModel(t *testing.T, x *tables.Tables, tokens []int) probe.Fault {
	t.Helper()
	want, fault := modelRun(x, tokens)
	checkRun(t, x, tokens, want, fault)
	return fault
}

// checkRefused wants a refusal at that place, and beside it what was done till then.
func checkRefused(t *testing.T, x *tables.Tables, tokens []int, place int, made ...api.Step) {
	t.Helper()
	checkRun(t, x, tokens, parse.Run{Shifts: place, Made: made}, probe.AtPlace(api.ErrRefused, place))
}

// checkNoRun wants an error that tells no place, and nothing beside it.
func checkNoRun(t *testing.T, x *tables.Tables, tokens []int, want error) {
	t.Helper()
	checkRun(t, x, tokens, parse.Run{}, probe.Bare(want))
}

// checkWork is P17.3 of any run.
func checkWork(t *testing.T, tokens []int, r parse.Run) {
	t.Helper()
	seen := make(map[[2]int]int)
	for _, s := range r.Made {
		seen[[2]int{s.From, s.To}]++
	}
	if n := len(tokens); r.Shifts > n || len(r.Made) > n || len(seen) < len(r.Made) {
		t.Fatalf("of %d tokens %d shifts, made %v", n, r.Shifts, r.Made)
	}
}

// checkAccepted is P17.3 of accepted tokens, and P17.4.
func checkAccepted(t *testing.T, x *tables.Tables, tokens []int, r parse.Run) {
	t.Helper()
	if r.Shifts != len(tokens) || !slices.Equal(sorted(r.Made), sorted(r.Tree)) {
		t.Fatalf("of %d tokens %d shifts, made %v, the tree %v", len(tokens), r.Shifts, r.Made, r.Tree)
	}
	root, ok := probe.TreeOf(x.Normal().Rules, r.Tree)
	if !ok || root.Step.From != 0 || !slices.Equal(root.Tokens(), tokens) || !x.Start(-1-root.Symbol) {
		t.Fatalf("the tree %v of %v", r.Tree, brief(tokens))
	}
}

// What tests are made of

func step(rule, from, to int) api.Step { return api.Step{Rule: rule, From: from, To: to} }

func steps(list ...api.Step) []api.Step { return list }

// sorted is steps in an order of their own.
func sorted(list []api.Step) []api.Step {
	list = slices.Clone(list)
	slices.SortFunc(list, func(a, b api.Step) int {
		return slices.Compare([]int{a.From, a.To, a.Rule}, []int{b.From, b.To, b.Rule})
	})
	return list
}

// brief is the beginning of tokens, as a fault is told of them.
func brief(tokens []int) []int { return tokens[:min(len(tokens), 40)] }

// anyRow is a row of terminals, of up to that many.
func anyRow(n *probe.Numbers, x *tables.Tables, most int) []int {
	row := make([]int, n.Below(most+1))
	for k := range row {
		row[k] = n.Below(x.Terms())
	}
	return row
}
