package probe_test

import (
	"errors"
	"slices"
	"testing"

	"dovetail/api"
	"dovetail/probe"
)

func TestWhich(t *testing.T) {
	wrapped := &api.PlaceError{At: 7, Err: &api.RuleError{Rule: 3, Err: api.ErrForm}}
	paired := &api.PairError{Pair: api.Pair{A: 1, B: 2, First: 3}, Err: api.ErrMatrix}
	cases := []struct {
		err, want   error
		rule, place int
	}{
		{nil, nil, probe.None, probe.None},
		{api.ErrArg, api.ErrArg, probe.None, probe.None},
		{api.ErrNone, api.ErrNone, probe.None, probe.None},
		{&api.RuleError{Err: api.ErrBounds}, api.ErrBounds, 0, probe.None},
		{&api.PlaceError{Err: api.ErrSyntax}, api.ErrSyntax, probe.None, 0},
		{wrapped, api.ErrForm, 3, 7},
		{paired, api.ErrMatrix, probe.None, probe.None},
	}
	for _, c := range cases {
		if which, rule, place := probe.Which(c.err), probe.RuleOf(c.err), probe.PlaceOf(c.err); which != c.want || rule != c.rule || place != c.place {
			t.Errorf("%v: %v, rule %d, place %d", c.err, which, rule, place)
		}
		if pair, ok := probe.PairOf(c.err); ok != (c.err == error(paired)) || ok && pair != paired.Pair {
			t.Errorf("%v: pair %v %v", c.err, pair, ok)
		}
	}
}

func TestWhichOfNoneAndOfSeveral(t *testing.T) {
	for _, err := range []error{errors.New("another"), errors.Join(api.ErrArg, api.ErrNone), errors.Join(api.ErrName, api.ErrCut, api.ErrSum)} {
		which := probe.Which(err)
		if which == nil {
			t.Errorf("%v: nil", err)
		}
		for _, e := range []error{api.ErrArg, api.ErrNone, api.ErrName, api.ErrCut, api.ErrSum} {
			if errors.Is(which, e) {
				t.Errorf("%v: %v", err, which)
			}
		}
	}
}

func TestNumbersComeAgain(t *testing.T) {
	var first, second probe.Numbers
	seen := make([]int, 5)
	for range 500 {
		n := first.Below(5)
		if n != second.Below(5) || n < 0 || n > 4 {
			t.Fatalf("the number %d", n)
		}
		seen[n]++
	}
	if slices.Min(seen) < 50 {
		t.Errorf("how often each number came: %v", seen)
	}
}

func TestNames(t *testing.T) {
	if got := probe.Names("n", 3); !slices.Equal(got, []string{"n0", "n1", "n2"}) {
		t.Errorf("Names: %q", got)
	}
}
