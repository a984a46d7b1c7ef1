package deriv

import (
	"slices"

	"dovetail/api"
	"dovetail/gram"
)

// fault is what a work panics with, in whatever depth it is then.
type fault struct{ err error }

// face does a call's work on a grammar, and answers the fault by which it came to an end, if there is one.
func face[T any](g api.Grammar, work func() T) (answer T, err error) {
	defer func() {
		switch f := recover().(type) {
		case nil:
		case fault:
			err = f.err
		default:
			panic(f)
		}
	}()
	checkGrammar(g)
	return work(), nil
}

// want ends the work with an error, unless that holds.
func want(holds bool, err error) {
	if !holds {
		panic(fault{err})
	}
}

func limit(n, most int) { want(n <= most, api.ErrLong) }

func checkGrammar(g api.Grammar) {
	err := gram.Check(g)
	want(err == nil, err)
	empty := slices.IndexFunc(g.Rules, func(r api.Rule) bool { return len(r.Right) == 0 })
	want(empty < 0, &api.RuleError{Rule: empty, Err: api.ErrNotOperator})
}
