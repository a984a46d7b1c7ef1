package show_test

import (
	"regexp"
	"slices"
	"strings"

	"dovetail/api"
	"dovetail/gram"
	"dovetail/probe"
	"dovetail/words"
)

// plainName is a name that stands in a text as it is, but for the two marks.
var plainName = regexp.MustCompile(`^[!$-~][!#-~]*$`)

// wordOf is a symbol's word, as the chapter's section 'Words' says it; "" if it has none.
func wordOf(g api.Grammar, symbol int) string {
	name, _ := gram.Name(g, symbol)
	asItIs := plainName.MatchString(name) && name != ":" && name != "|"
	switch {
	case symbol >= 0 && (!asItIs || slices.Contains(g.Nonterms, name)):
		return words.Quote(name)
	case !asItIs:
		return ""
	}
	return name
}

// firstOnes are the numbers of a list, each where it stands first.
func firstOnes(list []int) []int {
	var firsts []int
	for i, n := range list {
		if slices.Index(list, n) == i {
			firsts = append(firsts, n)
		}
	}
	return firsts
}

func upTo(n int) []int {
	var list []int
	for k := range n {
		list = append(list, k)
	}
	return list
}

// readableOf is the error that the chapter asks for of a grammar that may be.
func readableOf(g api.Grammar) error {
	var lefts, terms []int
	for _, r := range g.Rules {
		lefts = append(lefts, r.Left)
		terms = append(terms, slices.DeleteFunc(slices.Clone(r.Right), func(s int) bool { return s < 0 })...)
	}
	for n := range g.Nonterms {
		if wordOf(g, -1-n) == "" {
			return api.ErrName
		}
	}
	if len(g.Rules) == 0 || g.Axiom != 0 || !slices.Equal(firstOnes(lefts), upTo(len(g.Nonterms))) || !slices.Equal(firstOnes(terms), upTo(len(g.Terms))) {
		return api.ErrForm
	}
	return nil
}

// textOf is the text of a readable grammar: rules are put into rows of one Left ahead of telling them.
func textOf(g api.Grammar) string {
	var rows [][]api.Rule
	for n, r := range g.Rules {
		if n == 0 || g.Rules[n-1].Left != r.Left {
			rows = append(rows, nil)
		}
		rows[len(rows)-1] = append(rows[len(rows)-1], r)
	}
	text := ""
	for _, row := range rows {
		var sides []string
		for _, r := range row {
			side := ""
			for _, symbol := range r.Right {
				side += " " + wordOf(g, symbol)
			}
			sides = append(sides, side)
		}
		text += wordOf(g, -1-row[0].Left) + " :" + strings.Join(sides, " |") + "\n"
	}
	return text
}

// numbers is a row of numbers that look mixed, and what is chosen by them.
type numbers struct{ probe.Numbers }

// someNames are up to count of the names, no two the same.
func (n *numbers) someNames(count int, from ...string) []string {
	var list []string
	for range count {
		if name := from[n.Below(len(from))]; !slices.Contains(list, name) {
			list = append(list, name)
		}
	}
	return list
}

// mixed is a grammar that may be. Most are nearly readable: only the rules' order, or one name, is in the way.
func mixed(n *numbers) api.Grammar {
	g := api.Grammar{
		Terms:    n.someNames(n.Below(4), "a", "b", "S", "T", "|", ":", "a b", "\"", "#", "#a", "\n", "\x80", "::", "$", "?"),
		Nonterms: append([]string{"S"}, n.someNames(n.Below(3), "T", "U", "a", "||", "x#", "$", "<", "é")...),
	}
	if n.Below(12) == 0 {
		g.Axiom = n.Below(len(g.Nonterms))
	}
	if n.Below(24) == 0 {
		g.Nonterms[n.Below(len(g.Nonterms))] = []string{"|", ":", "#", "a b", "\""}[n.Below(5)]
	}
	left := 0
	for range n.Below(9) {
		r := rule(left)
		for range n.Below(4) {
			r.Right = append(r.Right, n.Below(len(g.Terms)+len(g.Nonterms))-len(g.Nonterms))
		}
		g.Rules = append(g.Rules, r)
		if n.Below(2) == 0 {
			left = (left + 1) % len(g.Nonterms)
		}
		if n.Below(8) == 0 {
			left = n.Below(len(g.Nonterms))
		}
	}
	return g
}

// longest has the longest text of all that may be: as many rules, as long right sides, as long names as there can be, each byte of four in the text.
func longest() api.Grammar {
	g := api.Grammar{Nonterms: []string{strings.Repeat("n", api.MaxName), strings.Repeat("m", api.MaxName)}}
	for k := range api.MaxSymbols - 2 {
		g.Terms = append(g.Terms, strings.Repeat("\x00", api.MaxName-1)+string(rune(128 + k))[1:])
	}
	for k := range api.MaxSource {
		r := rule(k % 2)
		for s := range api.MaxRight {
			r.Right = append(r.Right, (api.MaxRight*k+s)%len(g.Terms))
		}
		g.Rules = append(g.Rules, r)
	}
	return g
}

// manyGrammars are grammars that may be, readable ones and others.
func manyGrammars() []api.Grammar {
	list := []api.Grammar{sums(), longest(), {Nonterms: []string{"S"}}, {Nonterms: []string{"S"}, Rules: []api.Rule{{}}}}
	var n numbers
	for range 20000 {
		if g := mixed(&n); gram.Check(g) == nil {
			list = append(list, g)
		}
	}
	return list
}

// smallGrammars are all grammars of at most three rules of at most two symbols, with the names a and S each as terminals and nonterminals, and the axiom 0.
func smallGrammars() []api.Grammar {
	var list []api.Grammar
	for _, terms := range [][]string{{}, {"a"}, {"S"}, {"a", "S"}, {"S", "a"}} {
		for _, nonterms := range [][]string{{"S"}, {"a"}, {"S", "a"}, {"a", "S"}} {
			g := api.Grammar{Terms: terms, Nonterms: nonterms}
			for n := range 4 {
				list = append(list, withRules(g, n)...)
			}
		}
	}
	return list
}

// withRules are a grammar's forms with n rules more, each of up to two symbols. Of third rules only the shorter ones are taken: there would be too many.
func withRules(g api.Grammar, n int) []api.Grammar {
	if n == 0 {
		return []api.Grammar{g}
	}
	var list []api.Grammar
	for _, h := range withRules(g, n-1) {
		for left := range g.Nonterms {
			for _, right := range rights(g, n) {
				more := h
				more.Rules = append(slices.Clone(h.Rules), rule(left, right...))
				list = append(list, more)
			}
		}
	}
	return list
}

func rights(g api.Grammar, n int) [][]int {
	list := [][]int{{}}
	for a := -len(g.Nonterms); a < len(g.Terms); a++ {
		list = append(list, []int{a})
		for b := -len(g.Nonterms); b < len(g.Terms) && n < 3; b++ {
			list = append(list, []int{a, b})
		}
	}
	return list
}
