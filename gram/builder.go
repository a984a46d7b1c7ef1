package gram

import (
	"strings"

	"dovetail/api"
)

// Builder: see chapter 3.
type Builder struct {
	terms    roll
	nonterms roll
	axiom    int
	rules    []api.Rule
}

// roll is names in the order in which they came. Their numbers are kept beside them, so that of many names each is found as fast as of few.
type roll struct {
	names   []string
	numbers map[string]int
}

// number is the name's number; a new name is put behind the others.
func (r *roll) number(name string) int {
	if n, ok := r.numbers[name]; ok {
		return n
	}
	if r.numbers == nil {
		r.numbers = make(map[string]int)
	}
	n := len(r.names)
	// A copy, lest the name keep the text that it was cut from.
	name = strings.Clone(name)
	r.names = append(r.names, name)
	r.numbers[name] = n
	return n
}

// NewBuilder: P3.5.
func NewBuilder() *Builder { return &Builder{} }

// Term: P3.5.
func (b *Builder) Term(name string) int {
	if b == nil {
		return 0
	}
	return b.terms.number(name)
}

// Nonterm: P3.5.
func (b *Builder) Nonterm(name string) int {
	if b == nil {
		return 0
	}
	return b.nonterms.number(name)
}

// Rule: P3.5.
func (b *Builder) Rule(left int, right ...int) {
	if b == nil {
		return
	}
	b.rules = append(b.rules, copyRule(left, right))
}

// Axiom: P3.5.
func (b *Builder) Axiom(n int) {
	if b == nil {
		return
	}
	b.axiom = n
}

// Grammar: P3.5.
func (b *Builder) Grammar() (api.Grammar, error) {
	if b == nil {
		return api.Grammar{}, api.ErrArg
	}
	told := api.Grammar{Terms: b.terms.names, Nonterms: b.nonterms.names, Axiom: b.axiom, Rules: b.rules}
	if err := Check(told); err != nil {
		return api.Grammar{}, err
	}
	// A copy: what is told later must not reach a grammar that was answered, and what the caller does to it must not reach the builder.
	return Copy(told), nil
}
