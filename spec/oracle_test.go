package spec_test

import (
	"errors"
	"regexp"
	"slices"
	"strings"

	"dovetail/api"
	"dovetail/gram"
	"dovetail/probe"
	"dovetail/words"
)

// reading is what a text is to be read as, as the chapter's words say it.
type reading struct {
	grammar api.Grammar
	places  []int
	err     error
	// at is the place of ErrSyntax; rule that of ErrBounds, or probe.None.
	at   int
	rule int
}

// lineOf is a line of a text: where it begins, its bytes, its words.
type lineOf struct {
	start int
	bytes string
	words []words.Word
}

// Lines by the kinds of their words: n is a name that isn't quoted, q a quoted one, x one of a wrong length, c and b are the marks.
var (
	anyLine   = regexp.MustCompile(`^(nc[nqb]*|b[nqb]*)?$`)
	firstLine = regexp.MustCompile(`^(nc[nqb]*)?$`)
)

func kindOf(w words.Word) string {
	switch {
	case w.Text == ":" && !w.Quoted:
		return "c"
	case w.Text == "|" && !w.Quoted:
		return "b"
	case len(w.Text) == 0 || len(w.Text) > 32:
		return "x"
	case w.Quoted:
		return "q"
	}
	return "n"
}

// wrongPlace is where a line of these words is wrong: at the first one with which no line can begin; at its end, if it is only the beginning of one; or -1.
func wrongPlace(l lineOf, right *regexp.Regexp) int {
	kinds := ""
	for _, w := range l.words {
		kinds += kindOf(w)
		if !right.MatchString(kinds) && !right.MatchString(kinds+"c") {
			return l.start + w.At
		}
	}
	if right.MatchString(kinds) {
		return -1
	}
	return l.start + len(l.bytes)
}

// linesOf are the lines of a text that have words; or the first place that is wrong.
func linesOf(text string) (lines []lineOf, at int) {
	start := 0
	for _, s := range strings.Split(text, "\n") {
		if len(s) > 1<<20 {
			return nil, start + 1<<20
		}
		list, err := words.Line(s)
		var p *api.PlaceError
		if errors.As(err, &p) {
			return nil, start + p.At
		}
		l := lineOf{start, s, list}
		right := anyLine
		if len(lines) == 0 {
			right = firstLine
		}
		if at := wrongPlace(l, right); at >= 0 {
			return nil, at
		}
		if len(list) > 0 {
			lines = append(lines, l)
		}
		start += len(s) + 1
	}
	if len(lines) == 0 {
		return nil, len(text)
	}
	return lines, -1
}

// number is a name's number in a list, to which it is put, if it is new.
func number(list *[]string, name string) int {
	if !slices.Contains(*list, name) {
		*list = append(*list, name)
	}
	return slices.Index(*list, name)
}

// readingOf reads a text in three walks: the nonterminals, the rules, the bounds.
func readingOf(text string) reading {
	lines, at := linesOf(text)
	if at >= 0 {
		return reading{err: api.ErrSyntax, at: at, rule: probe.None}
	}
	r := reading{rule: probe.None}
	g := &r.grammar
	for _, l := range lines {
		if kindOf(l.words[0]) == "n" {
			number(&g.Nonterms, l.words[0].Text)
		}
	}
	left := 0
	for _, l := range lines {
		if kindOf(l.words[0]) == "n" {
			left = slices.Index(g.Nonterms, l.words[0].Text)
			l.words = l.words[1:]
		}
		for _, w := range l.words {
			r.take(left, l.start, w)
		}
	}
	err := gram.Check(*g)
	var e *api.RuleError
	switch {
	case errors.As(err, &e):
		return reading{err: api.ErrBounds, rule: e.Rule}
	case err != nil:
		return reading{err: api.ErrBounds, rule: probe.None}
	}
	return r
}

// take takes a word from the first mark of a line on.
func (r *reading) take(left, start int, w words.Word) {
	g := &r.grammar
	if kind := kindOf(w); kind == "c" || kind == "b" {
		g.Rules = append(g.Rules, api.Rule{Left: left})
		r.places = append(r.places, start+w.At+1)
		return
	}
	last := len(g.Rules) - 1
	if len(g.Rules[last].Right) == 0 {
		r.places[last] = start + w.At
	}
	symbol := -1 - slices.Index(g.Nonterms, w.Text)
	if symbol == 0 || w.Quoted {
		symbol = number(&g.Terms, w.Text)
	}
	g.Rules[last].Right = append(g.Rules[last].Right, symbol)
}
