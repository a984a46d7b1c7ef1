package deriv_test

import (
	"slices"
	"strings"
	"testing"

	"dovetail/api"
	"dovetail/deriv"
	"dovetail/probe"
)

// someTree is a grammar, one of its nonterminals, and a derivation tree of that from 0 on with its tokens.
type someTree struct {
	g       api.Grammar
	nonterm int
	tree    []api.Step
	tokens  []int
}

// someTrees are of each of many grammars so many, of all nonterminals that derive a row.
func someTrees(n *probe.Numbers, many, size int) []someTree {
	var list []someTree
	grammars := probe.MixedGrammars(40)
	for _, text := range probe.ClearTexts() {
		grammars = append(grammars, probe.Read(text))
	}
	for _, g := range grammars {
		for nonterm := range g.Nonterms {
			turned := g
			turned.Axiom = nonterm
			d, ok := probe.NewDeriver(turned)
			if !ok {
				continue
			}
			for range many {
				tree, tokens := d.Tree(n, n.Below(size))
				list = append(list, someTree{g, nonterm, tree, tokens})
			}
		}
	}
	return list
}

// TestTrees: derivation trees of many grammars, at any places, and P18.6, P18.7 of them.
func TestTrees(t *testing.T) {
	var n probe.Numbers
	whole, parts := 0, 0
	for _, x := range someTrees(&n, 20, 60) {
		checkTree(t, x.g, probe.Moved(x.tree, n.Below(100)))
		if f := checkTree(t, x.g, x.tree); f.Which != nil {
			t.Fatalf("%v: %v", x.tree, f)
		}
		checkThereAndBack(t, x)
		checkOrder(t, x.tree)
		f := checkTokens(t, x.g, x.tokens, x.tree)
		if (f.Which == nil) != (x.nonterm == x.g.Axiom) {
			t.Fatalf("Check of %v with %v, of %d, the axiom is %d: %v", x.tokens, x.tree, x.nonterm, x.g.Axiom, f)
		}
		if f.Which == nil {
			whole++
		} else {
			parts++
		}
		checkTokens(t, x.g, probe.Spoiled(&n, len(x.g.Terms), x.tokens), x.tree)
	}
	if min(whole, parts) < 500 {
		t.Errorf("%d whole, %d others", whole, parts)
	}
}

// checkThereAndBack is P18.6.
func checkThereAndBack(t *testing.T, x someTree) {
	t.Helper()
	rules, err := deriv.Rules(x.g, x.tree)
	if grown, wrong := deriv.Grow(x.g, x.nonterm, rules); err != nil || wrong != nil || !slices.Equal(grown, x.tree) {
		t.Fatalf("%v grew out of the rules of %v: %v, %v", grown, x.tree, err, wrong)
	}
	text, err := deriv.Text(x.g, x.tree)
	if read, wrong := deriv.Read(x.g, text); err != nil || wrong != nil || !slices.Equal(read, x.tree) {
		t.Fatalf("%v was read of the text of %v: %v, %v", read, x.tree, err, wrong)
	}
	if tokens, err := deriv.Frontier(x.g, x.tree); err != nil || !slices.Equal(tokens, x.tokens) {
		t.Fatalf("the frontier %v of %v: %v", tokens, x.tokens, err)
	}
	checkGrow(t, x.g, x.nonterm, rules)
	checkRead(t, x.g, text)
}

// checkOrder is P18.7.
func checkOrder(t *testing.T, tree []api.Step) {
	t.Helper()
	if !slices.IsSortedFunc(tree, func(a, b api.Step) int { return slices.Compare([]int{a.From, -a.To}, []int{b.From, -b.To}) }) {
		t.Fatalf("the steps %v", tree)
	}
}

// TestSpoiledTrees: what is spoiled once or twice, of which some are trees still.
func TestSpoiledTrees(t *testing.T) {
	var n probe.Numbers
	right, wrong := 0, 0
	for _, x := range someTrees(&n, 20, 16) {
		for range 12 {
			tree := x.tree
			for range 1 + n.Below(2) {
				tree = probe.SpoiledSteps(&n, len(x.g.Rules), tree)
			}
			checkTokens(t, x.g, x.tokens, tree)
			switch f := checkTree(t, x.g, tree); f.Which {
			case nil:
				right++
				checkOrder(t, tree)
			case api.ErrTree:
				wrong++
			}
		}
	}
	if right < 500 || wrong < 10000 {
		t.Errorf("%d trees, %d others", right, wrong)
	}
}

// TestAllSmallTrees: all lists of up to three steps of few rules and places.
func TestAllSmallTrees(t *testing.T) {
	g := probe.Read("S : T | T a T; T : a")
	var all []api.Step
	for rule := -1; rule < 4; rule++ {
		for from := range 3 {
			for to := range 4 {
				all = append(all, step(rule, from, to))
			}
		}
	}
	all = append(all, step(2, -1, 0), step(0, -1, 0))
	found := 0
	for _, a := range all {
		for _, b := range all {
			for _, list := range [][]api.Step{{a}, {a, b}, {a, b, step(2, 2, 3)}} {
				if checkTree(t, g, list).Which == nil {
					found++
				}
				checkTokens(t, g, slices.Repeat([]int{0}, len(list)), list)
			}
		}
	}
	// T at three places, with each other step behind the one that is taken alone; S over T at three places; S over three.
	if found != 3*len(all)+3+1 {
		t.Errorf("%d trees", found)
	}
}

// TestSpoiledRules: rules of trees with one or two less, more or others, grown of any nonterminal.
func TestSpoiledRules(t *testing.T) {
	var n probe.Numbers
	right, wrong := 0, 0
	for _, x := range someTrees(&n, 20, 16) {
		rules, _ := deriv.Rules(x.g, x.tree)
		for range 10 {
			spoiled := probe.Spoiled(&n, len(x.g.Rules)+1, rules)
			nonterm := x.nonterm
			if n.Below(4) == 0 {
				nonterm = n.Below(len(x.g.Nonterms))
			}
			switch f := checkGrow(t, x.g, nonterm, spoiled); f.Which {
			case nil:
				right++
			case api.ErrTree:
				wrong++
			}
		}
	}
	if right < 500 || wrong < 10000 {
		t.Errorf("%d trees, %d others", right, wrong)
	}
}

// TestAllRules: all short rows of rules, and just those are grown that are a tree's.
func TestAllRules(t *testing.T) {
	g := probe.Read("S : T S | T; T : a | b S a")
	grown := 0
	for _, rules := range probe.Sides(6, 0, 1, 2, 3) {
		for nonterm := range 2 {
			if checkGrow(t, g, nonterm, rules).Which == nil {
				grown++
			}
		}
	}
	if grown < 10 {
		t.Errorf("only %d are grown", grown)
	}
}

// Texts that are nearly right

// spoiledText is a text with a byte less, more or another one, or with another number.
func spoiledText(n *probe.Numbers, text string) string {
	at := n.Below(len(text) + 1)
	part := n.One("(", ")", " ", ".", "0", "1", "2", "9", "x", " .", "0)", "(1", " .1", "\x80")
	switch n.Below(5) {
	case 0:
		return text[:at] + text[min(at+1, len(text)):]
	case 1:
		return text[:at] + part + text[at:]
	case 2:
		return text[:at] + part + text[min(at+1, len(text)):]
	}
	digit := strings.IndexAny(text[at:], "0123456789")
	if digit < 0 {
		return text
	}
	at += digit
	return text[:at] + n.One("0", "1", "2", "3", "4", "5", "119", "120", "121", "200", "999", "1000", "01") + text[at+1:]
}

func TestSpoiledTexts(t *testing.T) {
	var n probe.Numbers
	faults := make(map[error]int)
	for _, x := range someTrees(&n, 20, 16) {
		text, _ := deriv.Text(x.g, x.tree)
		for range 20 {
			spoiled := text
			for range 1 + n.Below(3)/2 {
				spoiled = spoiledText(&n, spoiled)
			}
			faults[checkRead(t, x.g, spoiled).Which]++
		}
	}
	if min(faults[nil], faults[api.ErrLong]) < 1000 || min(faults[api.ErrTree], faults[api.ErrSyntax]) < 5000 || len(faults) != 4 {
		t.Errorf("%v", faults)
	}
}

// TestAllTexts: all short texts of the bytes that matter. Of what is taken Text writes the text again.
func TestAllTexts(t *testing.T) {
	g := probe.Read("S : a | S b")
	taken := 0
	for _, text := range probe.Texts(7, "(", ")", " ", ".", "0", "1") {
		if checkRead(t, g, text).Which != nil {
			continue
		}
		taken++
		tree, _ := deriv.Read(g, text)
		if again, err := deriv.Text(g, tree); err != nil || again != text {
			t.Fatalf("%q, read of %q: %v", again, text, err)
		}
	}
	if taken != 1 {
		t.Errorf("%d are taken", taken)
	}
}

// TestTextsThatAreCutOff: whatever stands ahead of the place that is told could go on rightly, and with the byte there nothing could.
func TestTextsThatAreCutOff(t *testing.T) {
	var n probe.Numbers
	wrong := func(text string) bool { return probe.PlaceOf(readError(text)) != probe.None }
	goesOn := func(text string) bool {
		for _, next := range []string{"", "0", "(0", ".0"} {
			for deep := range 12 {
				if !wrong(text + next + strings.Repeat(")", deep)) {
					return true
				}
			}
		}
		return false
	}
	refused := 0
	for range 3000 {
		text := ""
		for range 1 + n.Below(10) {
			text += n.One("(", "(", "(", ")", ")", " ", " ", " ", ".", "0", "1", "12", "120", "(1", " .1")
		}
		at := probe.PlaceOf(readError(text))
		if at == probe.None {
			continue
		}
		refused++
		if !goesOn(text[:at]) || at < len(text) && goesOn(text[:at+1]) {
			t.Fatalf("%q is refused at %d", text, at)
		}
	}
	if refused < 2000 {
		t.Errorf("only %d are refused", refused)
	}
}

func readError(text string) error {
	_, err := deriv.Read(sums(), text)
	return err
}

// Long ones

// TestManySteps: as many as there may be, deep and flat.
func TestManySteps(t *testing.T) {
	const most = deriv.MaxSteps
	cases := []struct {
		text  string
		rules []int
		depth int
	}{
		{"S : S | a", append(make([]int, most-1), 1), most},
		{"S : S S | S | a", slices.Concat([]int{1}, make([]int, most/2-1), slices.Repeat([]int{2}, most/2)), most/2 + 1},
		{"S : S S | S | a", slices.Concat([]int{1}, slices.Repeat([]int{0, 2}, most/2-1), []int{2}), most/2 + 1},
		{"S : S a | S | a", slices.Concat(make([]int, most/2-1), slices.Repeat([]int{1}, most/2), []int{2}), most},
		{"S : a S | S | a", slices.Concat(make([]int, most/2-1), slices.Repeat([]int{1}, most/2), []int{2}), most},
	}
	for _, c := range cases {
		g := probe.Read(c.text)
		if f := checkGrow(t, g, 0, c.rules); f.Which != nil {
			t.Fatalf("%s: %v", c.text, f)
		}
		tree, _ := deriv.Grow(g, 0, c.rules)
		wantFault(t, c.text, checkTree(t, g, tree), probe.Bare(nil))
		tokens, _ := deriv.Frontier(g, tree)
		wantFault(t, c.text, checkTokens(t, g, tokens, tree), probe.Bare(nil))
		if depth, _ := deriv.Depth(g, tree); depth != c.depth {
			t.Errorf("%s: the depth %d", c.text, depth)
		}
		text, err := deriv.Text(g, tree)
		if err != nil {
			t.Fatalf("%s: %v", c.text, err)
		}
		wantFault(t, c.text, checkRead(t, g, text), probe.Bare(nil))
		// One step less or more.
		wantFault(t, c.text, checkGrow(t, g, 0, c.rules[1:]), probe.Bare(nil))
		wantFault(t, c.text, checkGrow(t, g, 0, c.rules[:most-1]), probe.Bare(api.ErrTree))
		wantFault(t, c.text, checkTree(t, g, tree[:most-1]), probe.Bare(api.ErrTree))
		wantFault(t, c.text, checkTree(t, g, append(tree, tree[most-1])), probe.Bare(api.ErrLong))
	}
}

// TestTextsOfManySteps: a text of one step more than there may be is too long, but for a wrong byte, and whether it is a tree or not.
func TestTextsOfManySteps(t *testing.T) {
	g := probe.Read("S : S | a")
	text := func(steps int, last string) string {
		return strings.Repeat("(0 ", steps-1) + last + strings.Repeat(")", steps-1)
	}
	wantFault(t, "just as many", checkRead(t, g, text(deriv.MaxSteps, "(1 .0)")), probe.Bare(nil))
	wantFault(t, "just as many", checkRead(t, g, text(deriv.MaxSteps, "(1 .1)")), probe.Bare(api.ErrTree))
	for _, last := range []string{"(1 .0)", "(1 .1)", "(121)", "(5)"} {
		wantFault(t, "one more", checkRead(t, g, text(deriv.MaxSteps+1, last)), probe.Bare(api.ErrLong))
		wantFault(t, "one more", checkRead(t, g, text(deriv.MaxSteps+1, last)+")"), probe.AtPlace(api.ErrSyntax, 4*deriv.MaxSteps+len(last)))
	}
	wantFault(t, "deep", checkRead(t, g, strings.Repeat("(0 ", api.MaxText/3)), probe.AtPlace(api.ErrSyntax, api.MaxText/3*3))
	wantFault(t, "flat", checkRead(t, g, "(0"+strings.Repeat(" (0)", deriv.MaxSteps)+")"), probe.Bare(api.ErrLong))
	wantFault(t, "flat", checkRead(t, g, "(0"+strings.Repeat(" (0)", deriv.MaxSteps-1)+")"), probe.Bare(api.ErrTree))
	wantFault(t, "of tokens", checkRead(t, g, "(0"+strings.Repeat(" .0", api.MaxText/3-1)+")"), probe.Bare(api.ErrTree))
}

// TestManyTokens: what is handed in may have 65536 tokens, and what is grown of rules; trees and texts may have more.
func TestManyTokens(t *testing.T) {
	g := probe.Read("S : S a a | a")
	rules := append(make([]int, api.MaxTokens/2), 1)
	wantFault(t, "65537", checkGrow(t, g, 0, rules), probe.Bare(api.ErrLong))
	wantFault(t, "65535", checkGrow(t, g, 0, rules[1:]), probe.Bare(nil))
	wantFault(t, "65537 and a rule", checkGrow(t, g, 0, append(rules, 1)), probe.Bare(api.ErrTree))
	wantFault(t, "65536 and no rule", checkGrow(t, g, 0, rules[:len(rules)-1]), probe.Bare(api.ErrTree))
	g = probe.Read("S : S a a | a a")
	wantFault(t, "65536", checkGrow(t, g, 0, rules[1:]), probe.Bare(nil))
	wantFault(t, "65538", checkGrow(t, g, 0, rules), probe.Bare(api.ErrLong))
	text := strings.Repeat("(0 ", len(rules)-1) + "(1 .0 .0)" + strings.Repeat(" .0 .0)", len(rules)-1)
	wantFault(t, "65538", checkRead(t, g, text), probe.Bare(nil))
	tree, _ := deriv.Read(g, text)
	wantFault(t, "65538", checkTree(t, g, tree), probe.Bare(nil))
	if tokens, _ := deriv.Frontier(g, tree); len(tokens) != api.MaxTokens+2 {
		t.Errorf("%d tokens", len(tokens))
	}
}

// TestLongTexts: of just as many bytes as a text may have, and of one more.
func TestLongTexts(t *testing.T) {
	g := probe.Read("S : S a a | a; T : b c d e f g h i j; S : k")
	const many = (api.MaxText - len("(1 .0)")) / len("(0  .0 .0)")
	rules := append(make([]int, many), 1)
	tree := longTree(rules, 2*many+1)
	wantFault(t, "just as many", checkTree(t, g, tree), probe.Bare(nil))
	text, err := deriv.Text(g, tree)
	if err != nil || len(text) != api.MaxText {
		t.Fatalf("%d bytes, %v", len(text), err)
	}
	wantFault(t, "just as many", checkRead(t, g, text), probe.Bare(nil))
	wantFault(t, "one more", checkRead(t, g, text+")"), probe.Bare(api.ErrLong))
	// The number of k has two digits. The other calls take the tree.
	rules[many] = 3
	tree = longTree(rules, 2*many+1)
	wantFault(t, "one more", checkTree(t, g, tree), probe.Bare(nil))
	if text, err := deriv.Text(g, tree); text != "" || err != api.ErrLong {
		t.Errorf("%d bytes, %v", len(text), err)
	}
	wantFault(t, "no tree", checkTree(t, g, tree[1:many]), probe.Bare(api.ErrTree))
}

// longTree is that of rules of which all but the last one are S : S a a.
func longTree(rules []int, tokens int) []api.Step {
	var tree []api.Step
	for _, rule := range rules {
		tree = append(tree, step(rule, 0, tokens))
		tokens -= 2
	}
	return tree
}

// P18.8

// TestMemory: what is handed in stays, the room behind it, too, and may be changed behind a call; answers are new each time.
func TestMemory(t *testing.T) {
	var n probe.Numbers
	for _, x := range someTrees(&n, 3, 20) {
		g := probe.Roomy(x.g)
		tree := append(slices.Clone(x.tree), step(9, 9, 9))[:len(x.tree)]
		tokens := append(slices.Clone(x.tokens), 9)[:len(x.tokens)]
		rules, _ := deriv.Rules(g, tree)
		rules = append(rules, 9)[:len(rules)]
		text, _ := deriv.Text(g, tree)
		whole := probe.Roomy(probe.Whole(g))
		deriv.Check(g, tokens, tree)
		deriv.Depth(g, tree)
		var trees [][]api.Step
		var lists [][]int
		for range 2 {
			grown, _ := deriv.Grow(g, x.nonterm, rules)
			read, _ := deriv.Read(g, text)
			frontier, _ := deriv.Frontier(g, tree)
			again, _ := deriv.Rules(g, tree)
			trees, lists = append(trees, grown, read), append(lists, frontier, again)
		}
		if !probe.Apart(append(trees, tree)...) || !probe.Apart(append(lists, tokens, rules)...) {
			t.Fatalf("answers of %v share memory", x.tree)
		}
		if !slices.Equal(tree, x.tree) || tree[:len(tree)+1][len(tree)] != step(9, 9, 9) || !slices.Equal(tokens, x.tokens) || tokens[:len(tokens)+1][len(tokens)] != 9 || rules[:len(rules)+1][len(rules)] != 9 {
			t.Fatalf("%v became %v", x.tree, tree)
		}
		if !sameGrammar(probe.Whole(g), whole) {
			t.Fatalf("%v became %v", whole, probe.Whole(g))
		}
		clear(tree)
		clear(tokens)
		clear(rules)
		clear(g.Rules)
		if !slices.Equal(trees[0], x.tree) || !slices.Equal(trees[1], x.tree) || !slices.Equal(lists[0], x.tokens) || lists[1][0] != x.tree[0].Rule {
			t.Fatalf("%v became %v", x.tree, trees)
		}
	}
}

func sameGrammar(a, b api.Grammar) bool {
	return a.Axiom == b.Axiom && slices.Equal(a.Terms, b.Terms) && slices.Equal(a.Nonterms, b.Nonterms) &&
		slices.EqualFunc(a.Rules, b.Rules, func(a, b api.Rule) bool { return a.Left == b.Left && slices.Equal(a.Right, b.Right) })
}

// TestCallsHaveNothingToDoWithEachOther: behind one that was wrong the next is as ever.
func TestCallsHaveNothingToDoWithEachOther(t *testing.T) {
	g := sums()
	for range 3 {
		wantFault(t, "a text", checkRead(t, g, "(0 (1 (2 .1)) .0"), probe.AtPlace(api.ErrSyntax, 16))
		wantFault(t, "a text", checkRead(t, g, "(0 (1 (2 .1)) .0 (2 .1))"), probe.Bare(nil))
		wantFault(t, "rules", checkGrow(t, g, 0, []int{0, 1}), probe.Bare(api.ErrTree))
		wantFault(t, "a tree", checkTree(t, g, sum()), probe.Bare(nil))
	}
}
