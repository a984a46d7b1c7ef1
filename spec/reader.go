package spec

import (
	"errors"
	"strings"

	"dovetail/api"
	"dovetail/gram"
	"dovetail/words"
)

// reader takes a text, word by word.
type reader struct {
	// next takes the line's next word.
	next state
	// start is where the line begins in the text.
	start int
	// left is the left side that a further line goes on with.
	left    int
	builder *gram.Builder
	// nonterms has the builder's numbers of them: the builder can't be asked for one without being given it.
	nonterms map[string]int
	rules    []rule
}

// rule is an alternative. Its names stay words up to the text's end, since only there it is known which of them are nonterminals.
type rule struct {
	left  int
	names []words.Word
	at    int
}

// state takes a word, and answers what takes the next one. It panics with the fault, if the word is wrong.
type state func(w words.Word) state

func readLines(text string) (*reader, error) {
	r := &reader{builder: gram.NewBuilder(), nonterms: make(map[string]int)}
	for line := range strings.SplitSeq(text, "\n") {
		if err := r.readLine(line); err != nil {
			return nil, inText(err, r.start)
		}
		r.start += len(line) + 1
	}
	if len(r.rules) == 0 {
		return nil, wrong(len(text))
	}
	return r, nil
}

// inText puts a fault of the line that begins at start at its place in the text.
func inText(err error, start int) error {
	var fault *api.PlaceError
	if errors.As(err, &fault) {
		return wrong(start + fault.At)
	}
	return err
}

// readLine answers a fault with its place in the line.
func (r *reader) readLine(line string) (err error) {
	defer func() {
		if fault := recover(); fault != nil {
			err = fault.(error)
		}
	}()
	r.next = r.begin
	for _, w := range cut(line) {
		r.next = r.next(w)
	}
	return nil
}

// cut is the words of a line, and behind them one that stands for the line's end: so a state to which the end comes too early refuses it as it does any other word.
func cut(line string) []words.Word {
	if len(line) > api.MaxText {
		panic(wrong(api.MaxText))
	}
	list, err := words.Line(line)
	if err != nil {
		panic(err)
	}
	return append(list, words.Word{At: len(line)})
}

// isEnd tells whether a word stands for the line's end: no word of a line is empty, but for a quoted one.
func isEnd(w words.Word) bool { return w.Text == "" && !w.Quoted }

func isMark(w words.Word, text string) bool { return w.Text == text && !w.Quoted }

// begin takes a line's first word.
func (r *reader) begin(w words.Word) state {
	switch {
	case isEnd(w):
		return nil
	case isMark(w, "|") && len(r.rules) > 0:
		return r.open(w)
	case isMark(w, "|"), w.Quoted:
		panic(wrong(w.At))
	}
	checkName(w)
	r.left = r.builder.Nonterm(w.Text)
	r.nonterms[w.Text] = r.left
	return r.colon
}

// colon takes the word behind a left side.
func (r *reader) colon(w words.Word) state {
	if !isMark(w, ":") {
		panic(wrong(w.At))
	}
	return r.open(w)
}

// open begins an alternative behind its mark.
func (r *reader) open(mark words.Word) state {
	r.rules = append(r.rules, rule{left: r.left, at: r.start + mark.At + len(mark.Text)})
	return r.names
}

// names takes a name of an alternative, or the mark behind it.
func (r *reader) names(w words.Word) state {
	switch {
	case isEnd(w):
		return nil
	case isMark(w, "|"):
		return r.open(w)
	}
	checkName(w)
	last := &r.rules[len(r.rules)-1]
	if len(last.names) == 0 {
		last.at = r.start + w.At
	}
	last.names = append(last.names, w)
	return r.names
}

// checkName panics, unless a word is a name, and its length is right.
func checkName(w words.Word) {
	if isMark(w, ":") || w.Text == "" || len(w.Text) > api.MaxName {
		panic(wrong(w.At))
	}
}

func wrong(at int) error { return &api.PlaceError{At: at, Err: api.ErrSyntax} }

// grammar is what was read. It is to be asked once, since it tells the builder the rules.
func (r *reader) grammar() (api.Grammar, error) {
	for _, rule := range r.rules {
		right := make([]int, len(rule.names))
		for i, name := range rule.names {
			right[i] = r.symbol(name)
		}
		r.builder.Rule(rule.left, right...)
	}
	return r.builder.Grammar()
}

// symbol is the nonterminal or the terminal that a name stands for.
func (r *reader) symbol(name words.Word) int {
	if n, ok := r.nonterms[name.Text]; ok && !name.Quoted {
		return -1 - n
	}
	return r.builder.Term(name.Text)
}
