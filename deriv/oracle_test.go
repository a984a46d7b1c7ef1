package deriv_test

import (
	"slices"
	"strconv"
	"testing"

	"dovetail/api"
	"dovetail/deriv"
	"dovetail/gram"
	"dovetail/probe"
)

// Answers by the chapter's words

// grammarFault is what is wrong with a grammar.
func grammarFault(g api.Grammar) probe.Fault {
	if err := gram.Check(g); err != nil {
		return probe.FaultOf(err)
	}
	for k, r := range g.Rules {
		if len(r.Right) == 0 {
			return probe.InRule(api.ErrNotOperator, k)
		}
	}
	return probe.Bare(nil)
}

// modelTree is the root of a tree, or what is wrong with it.
func modelTree(g api.Grammar, tree []api.Step) (probe.Node, probe.Fault) {
	if f := grammarFault(g); f.Which != nil {
		return probe.Node{}, f
	}
	if len(tree) > 131072 {
		return probe.Node{}, probe.Bare(api.ErrLong)
	}
	root, ok := probe.TreeOf(g.Rules, tree)
	if !ok {
		return probe.Node{}, probe.Bare(api.ErrTree)
	}
	return root, probe.Bare(nil)
}

func modelCheck(g api.Grammar, tokens []int, tree []api.Step) probe.Fault {
	root, f := modelTree(g, tree)
	if f.Which != nil && f.Which != api.ErrTree {
		return f
	}
	if len(tokens) > 65536 {
		return probe.Bare(api.ErrLong)
	}
	for _, token := range tokens {
		if token < 0 || token >= len(g.Terms) {
			return probe.Bare(api.ErrArg)
		}
	}
	if f.Which == nil && (root.Symbol != -1-g.Axiom || root.Step.From != 0 || !slices.Equal(root.Tokens(), tokens)) {
		return probe.Bare(api.ErrTree)
	}
	return f
}

func modelDepth(of probe.Node) int {
	if of.Symbol >= 0 {
		return 0
	}
	deepest := 0
	for _, part := range of.Parts {
		deepest = max(deepest, modelDepth(part))
	}
	return 1 + deepest
}

func modelText(of probe.Node, ahead []byte) []byte {
	if of.Symbol >= 0 {
		return append(append(ahead, '.'), strconv.Itoa(of.Symbol)...)
	}
	ahead = append(append(ahead, '('), strconv.Itoa(of.Step.Rule)...)
	for _, part := range of.Parts {
		ahead = modelText(part, append(ahead, ' '))
	}
	return append(ahead, ')')
}

// end stands, among the symbols that a row of rules is still to be made of, where a step ends.
const end = -1 << 20

// modelGrow replaces, rule by rule, the first nonterminal.
func modelGrow(g api.Grammar, nonterm int, rules []int) ([]api.Step, probe.Fault) {
	if f := grammarFault(g); f.Which != nil {
		return nil, f
	}
	if len(rules) > 131072 {
		return nil, probe.Bare(api.ErrLong)
	}
	if nonterm < 0 || nonterm >= len(g.Nonterms) {
		return nil, probe.Bare(api.ErrArg)
	}
	var tree []api.Step
	var open []int
	place := 0
	// The symbols that come next stand behind.
	for left := []int{-1 - nonterm}; len(left) > 0; {
		symbol := left[len(left)-1]
		left = left[:len(left)-1]
		switch {
		case symbol == end:
			tree[open[len(open)-1]].To = place
			open = open[:len(open)-1]
		case symbol >= 0:
			place++
		case len(rules) == 0 || rules[0] < 0 || rules[0] >= len(g.Rules) || g.Rules[rules[0]].Left != -1-symbol:
			return nil, probe.Bare(api.ErrTree)
		default:
			open = append(open, len(tree))
			tree = append(tree, api.Step{Rule: rules[0], From: place})
			left = append(left, end)
			for _, symbol := range slices.Backward(g.Rules[rules[0]].Right) {
				left = append(left, symbol)
			}
			rules = rules[1:]
		}
	}
	if len(rules) > 0 {
		return nil, probe.Bare(api.ErrTree)
	}
	if place > 65536 {
		return nil, probe.Bare(api.ErrLong)
	}
	return tree, probe.Bare(nil)
}

// modelRead reads the steps that a text has, whatever they are, and holds them against the rules.
func modelRead(g api.Grammar, text string) ([]api.Step, probe.Fault) {
	if f := grammarFault(g); f.Which != nil {
		return nil, f
	}
	if len(text) > 1048576 {
		return nil, probe.Bare(api.ErrLong)
	}
	r := &texts{text: text}
	root, ok := r.step()
	if !ok || r.at < len(text) {
		return nil, probe.AtPlace(api.ErrSyntax, r.at)
	}
	tree := root.Steps()
	if len(tree) > 131072 || slices.ContainsFunc(tree, func(s api.Step) bool { return s.Rule > 120 }) {
		return nil, probe.Bare(api.ErrLong)
	}
	if !isRight(g, root) {
		return nil, probe.Bare(api.ErrTree)
	}
	return tree, probe.Bare(nil)
}

// isRight tells whether the parts of each step that was read are as its rule has them.
func isRight(g api.Grammar, of probe.Node) bool {
	if of.Step.Rule >= len(g.Rules) || len(of.Parts) != len(g.Rules[of.Step.Rule].Right) {
		return false
	}
	for k, symbol := range g.Rules[of.Step.Rule].Right {
		part := of.Parts[k]
		if part.Symbol >= 0 || symbol >= 0 {
			if part.Symbol != symbol {
				return false
			}
			continue
		}
		if !isRight(g, part) || g.Rules[part.Step.Rule].Left != -1-symbol {
			return false
		}
	}
	return true
}

// texts reads a text by its form alone.
type texts struct {
	text   string
	at     int
	tokens int
}

// byte takes a byte that is to come next.
func (r *texts) byte(c byte) bool {
	if r.at < len(r.text) && r.text[r.at] == c {
		r.at++
		return true
	}
	return false
}

// step is a node whose nonterminal isn't known yet.
func (r *texts) step() (of probe.Node, ok bool) {
	of = probe.Node{Symbol: -1, Step: api.Step{From: r.tokens}}
	if !r.byte('(') {
		return of, false
	}
	if of.Step.Rule, ok = r.number(); !ok {
		return of, false
	}
	for r.byte(' ') {
		var part probe.Node
		if r.byte('.') {
			part.Symbol, ok = r.number()
			r.tokens++
		} else {
			part, ok = r.step()
		}
		if !ok {
			return of, false
		}
		of.Parts = append(of.Parts, part)
	}
	of.Step.To = r.tokens
	return of, r.byte(')')
}

// number takes as many digits as a number may have.
func (r *texts) number() (int, bool) {
	from := r.at
	for r.at < len(r.text) && r.at < from+3 && r.text[r.at] >= '0' && r.text[r.at] <= '9' {
		r.at++
		if r.text[from] == '0' {
			break
		}
	}
	number, err := strconv.Atoi(r.text[from:r.at])
	return number, err == nil
}

// The calls held against the words

// checkTree wants of all calls that are given a tree what the words say, and answers what is wrong with it.
func checkTree(t *testing.T, g api.Grammar, tree []api.Step) probe.Fault {
	t.Helper()
	root, want := modelTree(g, tree)
	var tokens, rules []int
	var text string
	depth, forText := 0, want
	if want.Which == nil {
		tokens, depth, text = root.Tokens(), modelDepth(root), string(modelText(root, nil))
		for _, s := range tree {
			rules = append(rules, s.Rule)
		}
	}
	if len(text) > 1048576 {
		text, forText = "", probe.Bare(api.ErrLong)
	}
	if got, err := deriv.Frontier(g, tree); probe.FaultOf(err) != want || !slices.Equal(got, tokens) {
		t.Fatalf("Frontier of %v: %v, %v, want %v, %v", brief(tree), brief(got), err, brief(tokens), want)
	}
	if got, err := deriv.Rules(g, tree); probe.FaultOf(err) != want || !slices.Equal(got, rules) {
		t.Fatalf("Rules of %v: %v, %v, want %v, %v", brief(tree), brief(got), err, brief(rules), want)
	}
	if got, err := deriv.Depth(g, tree); probe.FaultOf(err) != want || got != depth {
		t.Fatalf("Depth of %v: %v, %v, want %v, %v", brief(tree), got, err, depth, want)
	}
	if got, err := deriv.Text(g, tree); probe.FaultOf(err) != forText || got != text {
		t.Fatalf("Text of %v: %.200s, %v, want %.200s, %v", brief(tree), got, err, text, forText)
	}
	return want
}

// checkTokens wants of Check what the words say, and answers it.
func checkTokens(t *testing.T, g api.Grammar, tokens []int, tree []api.Step) probe.Fault {
	t.Helper()
	want := modelCheck(g, tokens, tree)
	if err := deriv.Check(g, tokens, tree); probe.FaultOf(err) != want {
		t.Fatalf("Check of %v with %v: %v, want %v", brief(tokens), brief(tree), err, want)
	}
	return want
}

// checkGrow wants of Grow what the words say, and answers what is wrong.
func checkGrow(t *testing.T, g api.Grammar, nonterm int, rules []int) probe.Fault {
	t.Helper()
	tree, want := modelGrow(g, nonterm, rules)
	if got, err := deriv.Grow(g, nonterm, rules); probe.FaultOf(err) != want || !slices.Equal(got, tree) {
		t.Fatalf("Grow of %d and %v: %v, %v, want %v, %v", nonterm, brief(rules), brief(got), err, brief(tree), want)
	}
	return want
}

// checkRead wants of Read what the words say, and answers what is wrong.
func checkRead(t *testing.T, g api.Grammar, text string) probe.Fault {
	t.Helper()
	tree, want := modelRead(g, text)
	if got, err := deriv.Read(g, text); probe.FaultOf(err) != want || !slices.Equal(got, tree) {
		t.Fatalf("Read of %.200q: %v, %v, want %v, %v", text, brief(got), err, brief(tree), want)
	}
	return want
}

// What tests are made of

func step(rule, from, to int) api.Step { return api.Step{Rule: rule, From: from, To: to} }

func steps(list ...api.Step) []api.Step { return list }

// brief is the beginning of a list, as a fault is told of it.
func brief[T any](list []T) []T { return list[:min(len(list), 40)] }

// sums is the chapter's grammar: terminals + 0, i 1; nonterminals E 0, T 1.
func sums() api.Grammar { return probe.Read("E : E + T | T; T : i") }

// sum is the tree of i + i.
func sum() []api.Step { return steps(step(0, 0, 3), step(1, 0, 1), step(2, 0, 1), step(2, 2, 3)) }
