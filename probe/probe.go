// Package probe holds what the tests of several packages share. No layer calls it.
package probe

import (
	"errors"
	"strconv"

	"dovetail/api"
)

// None is the rule or the place of an error that tells none.
const None = -1

var errUnclear = errors.New("probe: not just one of the errors")

// Which is the one of package api's errors that an error is, as errors.Is tells; where it is none of them, or several, an error that no test wants.
func Which(err error) error {
	if err == nil {
		return nil
	}
	which := errUnclear
	for _, e := range apiErrors() {
		switch {
		case !errors.Is(err, e):
		case which != errUnclear:
			return errUnclear
		default:
			which = e
		}
	}
	return which
}

func apiErrors() []error {
	return []error{
		api.ErrArg, api.ErrSyntax, api.ErrBounds, api.ErrNotOperator, api.ErrMatrix, api.ErrTooBig, api.ErrRefused, api.ErrCut,
		api.ErrPlan, api.ErrName, api.ErrTree, api.ErrLong, api.ErrForm, api.ErrSum, api.ErrNone,
	}
}

// RuleOf is the rule that an error tells, or None.
func RuleOf(err error) int {
	var r *api.RuleError
	if errors.As(err, &r) {
		return r.Rule
	}
	return None
}

// PlaceOf is the place that an error tells, or None.
func PlaceOf(err error) int {
	var p *api.PlaceError
	if errors.As(err, &p) {
		return p.At
	}
	return None
}

// PairOf is the pair that an error tells, if it tells one.
func PairOf(err error) (api.Pair, bool) {
	var p *api.PairError
	if errors.As(err, &p) {
		return p.Pair, true
	}
	return api.Pair{}, false
}

// Fault is all that an error tells.
type Fault struct {
	Which error
	// Place and Rule are None where the error tells none.
	Place, Rule int
	Pair        api.Pair
	Paired      bool
}

// FaultOf is what an error tells: of nil what Bare of nil is.
func FaultOf(err error) Fault {
	f := Fault{Which: Which(err), Place: PlaceOf(err), Rule: RuleOf(err)}
	f.Pair, f.Paired = PairOf(err)
	return f
}

// Bare, AtPlace and InRule are faults that tell just this.
func Bare(which error) Fault { return Fault{Which: which, Place: None, Rule: None} }

func AtPlace(which error, place int) Fault { return Fault{Which: which, Place: place, Rule: None} }

func InRule(which error, rule int) Fault { return Fault{Which: which, Place: None, Rule: rule} }

// Numbers is a row of numbers that look mixed, the same ones every time.
type Numbers uint64

// Below is the next number, from 0 on and below the bound, which is to be above 0.
func (n *Numbers) Below(bound int) int {
	*n = *n*6364136223846793005 + 1442695040888963407
	return int((uint64(*n) >> 33) % uint64(bound))
}

// One is one of the texts, of which there is to be one at least.
func (n *Numbers) One(list ...string) string { return list[n.Below(len(list))] }

// Order is the numbers below a size, each once, in an order that looks mixed.
func (n *Numbers) Order(size int) []int {
	list := make([]int, size)
	for i := range list {
		k := n.Below(i + 1)
		list[i], list[k] = list[k], i
	}
	return list
}

// UpTo is the numbers below a size, rising.
func UpTo(size int) []int {
	list := make([]int, size)
	for k := range list {
		list[k] = k
	}
	return list
}

// Names are n names with that beginning, no two the same.
func Names(prefix string, n int) []string {
	list := make([]string, n)
	for i := range list {
		list[i] = prefix + strconv.Itoa(i)
	}
	return list
}

// Letters are n names of one byte, which rise from the first on.
func Letters(first byte, n int) []string {
	list := make([]string, n)
	for k := range list {
		list[k] = string([]byte{first + byte(k)})
	}
	return list
}
