package show_test

import (
	"math"
	"slices"
	"strings"
	"testing"
	"unsafe"

	"dovetail/api"
	"dovetail/gram"
	"dovetail/probe"
	"dovetail/show"
	"dovetail/spec"
)

// noRule is the rule of an error that tells none.
const noRule = probe.None

// told is what an error tells: the one of all that it is, and its rule.
func told(err error) (which error, rule int) { return probe.Which(err), probe.RuleOf(err) }

func rule(left int, right ...int) api.Rule { return api.Rule{Left: left, Right: right} }

// list is texts in a row, shorter to write in grammars.
func list(names ...string) []string { return names }

// sums is G of the chapter.
func sums() api.Grammar {
	return api.Grammar{Terms: list("+", "i"), Nonterms: list("E", "T"), Rules: []api.Rule{rule(0, -1, 0, -2), rule(0, -2), rule(1, 1)}}
}

func checkText(t *testing.T, g api.Grammar, want string) {
	t.Helper()
	if got, err := show.Text(g); got != want || err != nil {
		t.Errorf("Text of %v: %q %v, want %q", g, got, err, want)
	}
	if err := show.Readable(g); err != nil {
		t.Errorf("Readable of %v: %v", g, err)
	}
}

// checkRefused: Text and Readable have that error alone, and no text beside it.
func checkRefused(t *testing.T, g api.Grammar, want error, rule int) {
	t.Helper()
	got, err := show.Text(g)
	if which, r := told(err); which != want || r != rule || got != "" {
		t.Errorf("Text of %v: %q %v, want %v", g, got, err, want)
	}
	err = show.Readable(g)
	if which, r := told(err); which != want || r != rule {
		t.Errorf("Readable of %v: %v, want %v", g, err, want)
	}
}

func checkRule(t *testing.T, g api.Grammar, n int, want string) {
	t.Helper()
	if got, err := show.Rule(g, n); got != want || err != nil {
		t.Errorf("Rule %d of %v: %q %v, want %q", n, g, got, err, want)
	}
}

func checkRuleRefused(t *testing.T, g api.Grammar, n int, want error, rule int) {
	t.Helper()
	got, err := show.Rule(g, n)
	if which, r := told(err); which != want || r != rule || got != "" {
		t.Errorf("Rule %d of %v: %q %v, want %v", n, g, got, err, want)
	}
}

func checkSymbol(t *testing.T, g api.Grammar, symbol int, want string) {
	t.Helper()
	if got := show.Symbol(g, symbol); got != want {
		t.Errorf("Symbol %d of %v: %q, want %q", symbol, g, got, want)
	}
}

// P5.1

func TestTextOfRulesSideBySide(t *testing.T) {
	a := api.Grammar{Terms: list("a"), Nonterms: list("S")}
	a.Rules = []api.Rule{rule(0, 0)}
	checkText(t, a, "S : a\n")
	a.Rules = []api.Rule{rule(0, 0), rule(0, 0), rule(0, -1, 0)}
	checkText(t, a, "S : a | a | S a\n")
	b := api.Grammar{Terms: list("a", "b"), Nonterms: list("S", "T")}
	b.Rules = []api.Rule{rule(0, -2, 0), rule(1, 1), rule(1, 0), rule(0, 1), rule(1, -1), rule(1, -1)}
	checkText(t, b, "S : T a\nT : b | a\nS : b\nT : S | S\n")
}

func TestTextOfEmptyRightSides(t *testing.T) {
	none := api.Grammar{Nonterms: list("S")}
	none.Rules = []api.Rule{rule(0)}
	checkText(t, none, "S :\n")
	none.Rules = []api.Rule{rule(0), {Right: []int{}}, rule(0)}
	checkText(t, none, "S : | |\n")
	one := api.Grammar{Terms: list("a"), Nonterms: list("S")}
	one.Rules = []api.Rule{rule(0), rule(0, 0)}
	checkText(t, one, "S : | a\n")
	one.Rules = []api.Rule{rule(0, 0), rule(0), rule(0, 0), rule(0)}
	checkText(t, one, "S : a | | a |\n")
	two := api.Grammar{Nonterms: list("S", "T"), Rules: []api.Rule{rule(0), rule(1), rule(0), rule(0)}}
	checkText(t, two, "S :\nT :\nS : |\n")
}

func TestTextQuotesTerminals(t *testing.T) {
	g := api.Grammar{
		Terms:    list("S", "T", ":", "|", "a b", "#", "a#", "\"", "\\", "\n", "\x00", "\x7f", "\xc3\xa9", "::", "||", "$", "t"),
		Nonterms: list("S", "T"),
		Rules:    []api.Rule{rule(0, 0, 1, 2, 3, 4, 5), rule(0, -1, 0, 6, 7, 8), rule(1, 9, 10, 11, 12), rule(1, 13, 14, 15, 16)},
	}
	checkText(t, g, `S : "S" "T" ":" "|" "a b" "#" | S "S" a# "\"" \`+"\n"+`T : "\n" "\x00" "\x7F" "\xC3\xA9" | :: || $ t`+"\n")
}

func TestReadableOfNonterminalsWithoutWords(t *testing.T) {
	for _, name := range list(":", "|", "a b", "#", "#S", "\"", "S\"", " ", "\n", "\t", "\x00", "\x1f", "\x7f", "\x80", "é") {
		for n := range 2 {
			g := sums()
			g.Nonterms[n] = name
			checkRefused(t, g, api.ErrName, noRule)
		}
	}
	for _, name := range list("::", "||", "S#", "\\", "!", "~", "$", "?", "<", "+", "i", strings.Repeat("n", 32)) {
		g := sums()
		g.Nonterms[1] = name
		if err := show.Readable(g); err != nil {
			t.Errorf("Readable with the nonterminal %q: %v", name, err)
		}
	}
}

func TestReadableOfForm(t *testing.T) {
	cases := map[string]func(g *api.Grammar){
		"another axiom":                   func(g *api.Grammar) { g.Axiom = 1 },
		"no rules":                        func(g *api.Grammar) { g.Rules = nil },
		"no rules, no terminals":          func(g *api.Grammar) { g.Rules, g.Terms = nil, nil },
		"no rules, one nonterminal":       func(g *api.Grammar) { g.Rules, g.Terms, g.Nonterms = nil, nil, list("S") },
		"a nonterminal without rules":     func(g *api.Grammar) { g.Nonterms = append(g.Nonterms, "U") },
		"the first one without rules":     func(g *api.Grammar) { g.Rules[0].Left, g.Rules[1].Left = 1, 1 },
		"a nonterminal in no Left":        func(g *api.Grammar) { g.Rules[2].Left = 0 },
		"nonterminals out of order":       func(g *api.Grammar) { g.Rules[0].Left, g.Rules[2].Left = 1, 0 },
		"a middle one without rules":      func(g *api.Grammar) { g.Nonterms, g.Rules[2].Left = list("E", "T", "U"), 2 },
		"a terminal in no rule":           func(g *api.Grammar) { g.Terms = append(g.Terms, "x") },
		"the first one in no rule":        func(g *api.Grammar) { g.Rules[0].Right[1] = 1 },
		"terminals out of order":          func(g *api.Grammar) { g.Rules[0].Right[1], g.Rules[2].Right[0] = 1, 0 },
		"out of order in one side":        func(g *api.Grammar) { g.Rules[0].Right = []int{1, 0} },
		"terminals, and no one in a rule": func(g *api.Grammar) { g.Rules[0].Right, g.Rules[2].Right = nil, nil },
	}
	for name, change := range cases {
		g := sums()
		change(&g)
		if gram.Check(g) != nil {
			t.Fatalf("%s: %v", name, gram.Check(g))
		}
		checkRefused(t, g, api.ErrForm, noRule)
	}
}

func TestReadableTellsCheckFirst(t *testing.T) {
	many := sums()
	many.Terms = probe.Names("t", 59)
	many.Nonterms[0] = "a b"
	checkRefused(t, many, api.ErrBounds, noRule)
	twice := sums()
	twice.Nonterms = list("|", "|")
	twice.Axiom = 1
	checkRefused(t, twice, api.ErrName, noRule)
	axiom := sums()
	axiom.Nonterms[0], axiom.Axiom = "|", 2
	checkRefused(t, axiom, api.ErrArg, noRule)
	long := sums()
	long.Nonterms[1] = "|"
	long.Rules[1].Right = make([]int, 33)
	checkRefused(t, long, api.ErrBounds, 1)
	left := sums()
	left.Nonterms[1] = "|"
	left.Rules[2].Left = 2
	checkRefused(t, left, api.ErrArg, 2)
	symbol := sums()
	symbol.Axiom = 1
	symbol.Rules[2].Right[0] = 2
	checkRefused(t, symbol, api.ErrArg, 2)
	checkRefused(t, api.Grammar{}, api.ErrArg, noRule)
	checkRefused(t, api.Grammar{Nonterms: list("")}, api.ErrName, noRule)
}

func TestReadableTellsWordsAheadOfForm(t *testing.T) {
	axiom := sums()
	axiom.Nonterms[1], axiom.Axiom = "a b", 1
	checkRefused(t, axiom, api.ErrName, noRule)
	checkRefused(t, api.Grammar{Nonterms: list("S", "|")}, api.ErrName, noRule)
	order := sums()
	order.Nonterms[0] = ":"
	order.Rules[0].Right[1] = 1
	checkRefused(t, order, api.ErrName, noRule)
}

func TestTextOfManyGrammars(t *testing.T) {
	readable := 0
	for _, g := range append(manyGrammars(), smallGrammars()...) {
		if want := readableOf(g); want != nil {
			checkRefused(t, g, want, noRule)
			continue
		}
		readable++
		checkText(t, g, textOf(g))
	}
	if readable < 3000 {
		t.Errorf("only %d grammars are readable", readable)
	}
}

// TestNoTextIsTooLong: ErrLong never comes up, since the other limits bound the text by half of MaxText.
func TestNoTextIsTooLong(t *testing.T) {
	g := longest()
	text, err := show.Text(g)
	if err != nil || text != textOf(g) {
		t.Fatalf("Text of the longest: %d bytes, %v", len(text), err)
	}
	line := api.MaxName + len(" :\n") + api.MaxRight*(len(" ")+len(`""`)+4*api.MaxName)
	if len(text) != api.MaxSource*line || len(text) > api.MaxText {
		t.Errorf("the longest text has %d bytes, not %d lines of %d", len(text), api.MaxSource, line)
	}
}

// P5.2

func TestSymbolOfTerminals(t *testing.T) {
	g := api.Grammar{Terms: list("+", "S", ":", "|", "", "a b", "#", "é", "$", "?"), Nonterms: list("S", "a b")}
	for symbol, want := range list("+", `"S"`, `":"`, `"|"`, `""`, `"a b"`, `"#"`, `"\xC3\xA9"`, "$", "?", "$", "?", "?") {
		checkSymbol(t, g, symbol, want)
	}
	checkSymbol(t, api.Grammar{}, 0, "$")
	checkSymbol(t, api.Grammar{}, 1, "?")
	checkSymbol(t, g, math.MaxInt, "?")
}

func TestSymbolOfNonterminals(t *testing.T) {
	g := api.Grammar{Terms: list("S"), Nonterms: list("S", "T", ":", "|", "", "a b", "#", "\n", "<", "$")}
	for n, want := range list("S", "T", `<":">`, `<"|">`, `<"">`, `<"a b">`, `<"#">`, `<"\n">`, "<", "$", "?", "?") {
		checkSymbol(t, g, -1-n, want)
	}
	checkSymbol(t, api.Grammar{}, -1, "?")
	checkSymbol(t, g, math.MinInt, "?")
}

func TestSymbolsOfGrammarsThatMayNotBe(t *testing.T) {
	g := api.Grammar{Terms: append(probe.Names("t", 70), "t1", strings.Repeat("x", 99)), Nonterms: list("S", "S"), Axiom: 9, Rules: []api.Rule{rule(7, 99)}}
	if got := show.Symbols(g, 0, 70, 71, 72, 73, -1, -2, -3); got != "t0 t1 "+strings.Repeat("x", 99)+" $ ? S S ?" {
		t.Errorf("Symbols: %q", got)
	}
}

func TestSymbols(t *testing.T) {
	g := sums()
	cases := map[string][]int{"": nil, "E": {-1}, "i i i": {1, 1, 1}, "+ E $ ? ?": {0, -1, 2, 3, -3}}
	for want, symbols := range cases {
		if got := show.Symbols(g, symbols...); got != want {
			t.Errorf("Symbols %v: %q, want %q", symbols, got, want)
		}
	}
	if got := show.Symbols(g, make([]int, 100000)...); got != strings.Repeat("+ ", 99999)+"+" {
		t.Errorf("100000 symbols: %d bytes", len(got))
	}
	for _, g := range manyGrammars()[:3000] {
		var want []string
		var symbols []int
		for symbol := -len(g.Nonterms) - 1; symbol < len(g.Terms)+2; symbol++ {
			symbols = append(symbols, symbol)
			want = append(want, show.Symbol(g, symbol))
			if _, ok := gram.Name(g, symbol); ok && wordOf(g, symbol) != "" {
				checkSymbol(t, g, symbol, wordOf(g, symbol))
			}
		}
		if got := show.Symbols(g, symbols...); got != strings.Join(want, " ") {
			t.Errorf("Symbols of %v: %q, want %q", g, got, want)
		}
	}
}

// P5.3

func TestRule(t *testing.T) {
	g := sums()
	checkRule(t, g, 1, "E : T")
	checkRule(t, g, 2, "T : i")
	g.Rules = append(g.Rules, rule(1), api.Rule{Right: []int{}}, rule(1))
	for n, want := range list("T :", "E :", "T :") {
		checkRule(t, g, 3+n, want)
	}
	for _, n := range []int{-1, 6, math.MinInt, math.MaxInt} {
		checkRuleRefused(t, g, n, api.ErrArg, noRule)
	}
	checkRuleRefused(t, api.Grammar{Nonterms: list("S")}, 0, api.ErrArg, noRule)
}

func TestRuleOfGrammarsThatAreNotReadable(t *testing.T) {
	g := api.Grammar{Terms: list("T", "x", "|"), Nonterms: list("a b", "T", ":"), Axiom: 2, Rules: []api.Rule{rule(2, 2, -3, -1), rule(0, 0, -2), rule(2)}}
	checkRule(t, g, 0, `<":"> : "|" <":"> <"a b">`)
	checkRule(t, g, 1, `<"a b"> : "T" T`)
	checkRule(t, g, 2, `<":"> :`)
}

func TestRuleTellsCheckFirst(t *testing.T) {
	g := sums()
	g.Rules[1].Left = 2
	for n := -1; n < 5; n++ {
		checkRuleRefused(t, g, n, api.ErrArg, 1)
	}
	g.Terms[1] = "+"
	for n := -1; n < 5; n++ {
		checkRuleRefused(t, g, n, api.ErrName, noRule)
	}
	checkRuleRefused(t, api.Grammar{}, 0, api.ErrArg, noRule)
	long := sums()
	long.Rules[2].Right = make([]int, 33)
	checkRuleRefused(t, long, 0, api.ErrBounds, 2)
}

// P5.4

func TestThereAndBack(t *testing.T) {
	for _, g := range append(manyGrammars(), smallGrammars()...) {
		text, err := show.Text(g)
		if err != nil {
			continue
		}
		if h, err := spec.Read(text); err != nil || !gram.Same(g, h) {
			t.Errorf("Read of %q: %v %v, want %v", text, h, err, g)
		}
	}
}

func TestWhatIsReadIsReadable(t *testing.T) {
	var n numbers
	read := 0
	for range 20000 {
		text := ""
		for range n.Below(6) {
			text += list("S :", "T :", " U\t: #", "|", "a :", "S# :")[n.Below(6)]
			for range n.Below(7) {
				text += " " + list("|", "S", "T", "a", "b", "\"S\"", "\"|\"", "\":\"", "\"a b\"", "\"a\"", "S#", "\"\\x80\"")[n.Below(12)]
			}
			text += "\n"
		}
		g, err := spec.Read(text)
		if err != nil {
			continue
		}
		read++
		again, err := show.Text(g)
		if err != nil {
			t.Fatalf("Text of what %q is read as: %v", text, err)
		}
		if h, err := spec.Read(again); err != nil || !gram.Same(g, h) {
			t.Fatalf("%q is read as %v, %q as %v %v", text, g, again, h, err)
		}
	}
	if read < 5000 {
		t.Errorf("only %d texts were read", read)
	}
}

// P5.5

func TestOneText(t *testing.T) {
	of := make(map[string]api.Grammar)
	for _, g := range append(manyGrammars(), smallGrammars()...) {
		text, err := show.Text(g)
		if err != nil {
			continue
		}
		if h, ok := of[text]; ok && !gram.Same(g, h) {
			t.Errorf("%q is the text of %v and of %v", text, g, h)
		}
		of[text] = g
	}
	if len(of) < 3000 {
		t.Errorf("only %d texts", len(of))
	}
}

// P5.6

func TestNothingIsChanged(t *testing.T) {
	for _, g := range manyGrammars()[:2000] {
		g = probe.Roomy(g)
		before := gram.Copy(probe.Whole(g))
		symbols := append([]int{-1, 0, 1, 2}, 7)[:4]
		show.Text(g)
		show.Readable(g)
		show.Rule(g, 0)
		show.Symbol(g, -1)
		show.Symbols(g, symbols...)
		if !gram.Same(before, probe.Whole(g)) || !slices.Equal(symbols[:5], []int{-1, 0, 1, 2, 7}) {
			t.Fatalf("%v is changed to %v", before, probe.Whole(g))
		}
	}
}

// TestNothingIsKept: a later change of what was handed in is seen by the next call, and not in what was answered.
func TestNothingIsKept(t *testing.T) {
	g := sums()
	text, _ := show.Text(g)
	one, _ := show.Rule(g, 1)
	g.Terms[0], g.Nonterms[1], g.Rules[1].Right[0] = "-", "U", -1
	if text != "E : E + T | T\nT : i\n" || one != "E : T" {
		t.Errorf("the answers became %q, %q", text, one)
	}
	checkText(t, g, "E : E - U | E\nU : i\n")
	checkRule(t, g, 1, "E : E")
}

// TestSymbolsAreNewMemory: a symbol's text doesn't lie in the name, lest it keep the text that the name was cut from.
func TestSymbolsAreNewMemory(t *testing.T) {
	g := sums()
	for symbol, name := range map[int]string{-2: g.Nonterms[1], -1: g.Nonterms[0], 0: g.Terms[0], 1: g.Terms[1]} {
		for _, got := range list(show.Symbol(g, symbol), show.Symbols(g, symbol)) {
			if unsafe.StringData(got) == unsafe.StringData(name) {
				t.Errorf("symbol %d lies in its name", symbol)
			}
		}
	}
}

func TestErrorsOfRulesAreNewMemory(t *testing.T) {
	g := sums()
	g.Rules[1].Left = 2
	if first, second := show.Readable(g), show.Readable(g); first == second {
		t.Error("two errors of a rule are one")
	}
}

// TestExamples is the table of chapter 5.
func TestExamples(t *testing.T) {
	checkText(t, sums(), "E : E + T | T\nT : i\n")
	checkRule(t, sums(), 0, "E : E + T")
	checkRuleRefused(t, sums(), 3, api.ErrArg, noRule)
	if got := show.Symbols(sums(), 0, -1, 2, 3, -3); got != "+ E $ ? ?" {
		t.Errorf("Symbols: %q", got)
	}
	axiom, unused, blank := sums(), sums(), sums()
	axiom.Axiom = 1
	unused.Rules[0].Right = []int{-1, -2}
	blank.Nonterms[0] = "a b"
	checkRefused(t, axiom, api.ErrForm, noRule)
	checkRefused(t, unused, api.ErrForm, noRule)
	checkRefused(t, blank, api.ErrName, noRule)
	bar := api.Grammar{Terms: list("S", "|"), Nonterms: list("S"), Rules: []api.Rule{rule(0, 0, 1), rule(0)}}
	checkText(t, bar, "S : \"S\" \"|\" |\n")
	checkSymbol(t, blank, -1, `<"a b">`)
	checkRule(t, bar, 1, "S :")
}
