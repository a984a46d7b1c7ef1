package deriv

import (
	"strconv"

	"dovetail/api"
)

// writer writes the text of the tree that rules have in their order.
type writer struct {
	of []api.Rule
	// rules are those that aren't written yet.
	rules []int
	text  []byte
}

// write is the text of a tree, which there is to be.
func write(g api.Grammar, rules []int) string {
	w := &writer{of: g.Rules, rules: rules}
	w.node()
	return string(w.text)
}

func (w *writer) node() {
	rule := w.rules[0]
	w.rules = w.rules[1:]
	w.number('(', rule)
	for _, symbol := range w.of[rule].Right {
		w.text = append(w.text, ' ')
		if symbol < 0 {
			w.node()
		} else {
			w.number('.', symbol)
		}
	}
	w.text = append(w.text, ')')
}

func (w *writer) number(mark byte, n int) {
	w.text = strconv.AppendInt(append(w.text, mark), int64(n), 10)
}

// reader takes a text, byte by byte, and looks at no grammar.
type reader struct {
	at int
	// open is how many steps have begun and not come to their end.
	open int
	// rules are the steps' numbers.
	rules []int
	// number is the one that is read, and digits is how many more it may have.
	number *int
	digits int
}

// state takes a byte, and answers what takes the next one.
type state func(c byte) state

// read is the numbers of the steps of a text.
func read(text string) []int {
	r := &reader{}
	next := state(r.step)
	for ; r.at < len(text); r.at++ {
		next = next(text[r.at])
	}
	if r.open > 0 || len(r.rules) == 0 {
		r.wrong()
	}
	return r.rules
}

func (r *reader) wrong() state {
	panic(fault{&api.PlaceError{At: r.at, Err: api.ErrSyntax}})
}

// step takes what begins a step.
func (r *reader) step(c byte) state {
	if c != '(' {
		return r.wrong()
	}
	r.open++
	r.rules = append(r.rules, 0)
	r.number = &r.rules[len(r.rules)-1]
	return r.digit
}

// digit takes a number's first digit.
func (r *reader) digit(c byte) state {
	if !isDigit(c) {
		return r.wrong()
	}
	*r.number = int(c - '0')
	if c == '0' {
		return r.behind
	}
	r.digits = 2
	return r.more
}

// more takes a digit of a number, or what stands behind it.
func (r *reader) more(c byte) state {
	if !isDigit(c) || r.digits == 0 {
		return r.behind(c)
	}
	*r.number = *r.number*10 + int(c-'0')
	r.digits--
	return r.more
}

// behind takes what stands behind a number, or behind a step that is a part of another one.
func (r *reader) behind(c byte) state {
	switch c {
	case ' ':
		return r.part
	case ')':
		r.open--
		if r.open > 0 {
			return r.behind
		}
		return r.nothing
	}
	return r.wrong()
}

// part takes what begins a part of a step.
func (r *reader) part(c byte) state {
	if c != '.' {
		return r.step(c)
	}
	// A terminal's number is read, and kept by nobody.
	r.number = new(int)
	return r.digit
}

// nothing stands behind the whole text.
func (r *reader) nothing(byte) state { return r.wrong() }

func isDigit(c byte) bool { return c >= '0' && c <= '9' }
