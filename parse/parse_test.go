package parse_test

import (
	"errors"
	"math"
	"slices"
	"testing"

	"dovetail/api"
	"dovetail/parse"
	"dovetail/probe"
	"dovetail/tables"
)

// Grammars of the page's examples.
const (
	nest = "S : a S b | a b"
	plus = "E : E + T | T; T : i"
)

// Terminals of nest and plus.
const (
	a = 0
	b = 1

	sum = 0
	i   = 1
)

// P17.1

func TestParse(t *testing.T) {
	cases := []struct {
		text       string
		tokens     []int
		made, tree []api.Step
	}{
		{nest, []int{a, b}, steps(step(1, 0, 2)), steps(step(1, 0, 2))},
		{nest, []int{a, a, b, b}, steps(step(1, 1, 3), step(0, 0, 4)), steps(step(0, 0, 4), step(1, 1, 3))},
		{nest, []int{a, a, a, b, b, b}, steps(step(1, 2, 4), step(0, 1, 5), step(0, 0, 6)), steps(step(0, 0, 6), step(0, 1, 5), step(1, 2, 4))},
		{plus, []int{i}, steps(step(2, 0, 1)), steps(step(2, 0, 1))},
		{plus, []int{i, sum, i}, steps(step(2, 0, 1), step(2, 2, 3), step(0, 0, 3)), steps(step(0, 0, 3), step(2, 0, 1), step(2, 2, 3))},
		{"E : T ^ E | T; T : i", []int{1, 0, 1, 0, 1},
			steps(step(2, 0, 1), step(2, 2, 3), step(2, 4, 5), step(0, 2, 5), step(1, 0, 5)),
			steps(step(1, 0, 5), step(2, 0, 1), step(0, 2, 5), step(2, 2, 3), step(2, 4, 5))},
	}
	for _, c := range cases {
		want := parse.Run{Shifts: len(c.tokens), Made: c.made, Tree: c.tree}
		checkRun(t, probe.Tables(c.text), c.tokens, want, probe.Bare(nil))
	}
}

// TestATokenIsRefused: it has no relation to what stands ahead of it, or that has no rule, at once and behind reductions.
func TestATokenIsRefused(t *testing.T) {
	x := probe.Tables(nest)
	checkRefused(t, x, []int{b}, 0)
	checkRefused(t, x, []int{b, a, b}, 0)
	checkRefused(t, x, []int{a, b, a}, 2)
	checkRefused(t, x, []int{a, b, b}, 2, step(1, 0, 2))
	checkRefused(t, x, []int{a, a, b, a}, 3)
	checkRefused(t, x, []int{a, a, b, b, a}, 4, step(1, 1, 3))
	checkRefused(t, x, []int{a, a, b, b, b, b, b}, 4, step(1, 1, 3), step(0, 0, 4))
	x = probe.Tables(plus)
	checkRefused(t, x, []int{i, i}, 1)
	checkRefused(t, x, []int{i, sum, i, i}, 3, step(2, 0, 1))
	// The handle + has no rule.
	checkRefused(t, x, []int{sum, sum}, 1)
	checkRefused(t, x, []int{i, sum, sum}, 2, step(2, 0, 1))
	// What the token that is refused had reduced is made, too.
	x = probe.Tables("S : x P y | w P z; P : Q | p Q; Q : i")
	const ex, y, w, z, p, one = 0, 1, 2, 3, 4, 5
	two := steps(step(find(t, x, one), 2, 3), step(find(t, x, p, -1-left(t, x, one)), 1, 3))
	checkRefused(t, x, []int{ex, p, one, z}, 3, two...)
	checkRefused(t, x, []int{w, p, one, y}, 3, two...)
}

func find(t *testing.T, x *tables.Tables, right ...int) int {
	t.Helper()
	rule, ok := x.Find(right)
	if !ok {
		t.Fatalf("no rule %v", right)
	}
	return rule
}

func left(t *testing.T, x *tables.Tables, right ...int) int {
	t.Helper()
	set, _ := x.Left(find(t, x, right...))
	return set
}

// TestTheEndIsRefused: all tokens are laid on, and the place is their number.
func TestTheEndIsRefused(t *testing.T) {
	x := probe.Tables(nest)
	checkRefused(t, x, nil, 0)
	checkRefused(t, x, []int{}, 0)
	checkRefused(t, x, []int{a}, 1)
	checkRefused(t, x, []int{a, a, a}, 3)
	checkRefused(t, x, []int{a, a, b}, 3, step(1, 1, 3))
	x = probe.Tables(plus)
	checkRefused(t, x, nil, 0)
	checkRefused(t, x, []int{sum}, 1)
	checkRefused(t, x, []int{i, sum}, 2, step(2, 0, 1))
	checkRefused(t, x, []int{sum, i}, 2, step(2, 1, 2))
	checkRefused(t, x, []int{i, sum, i, sum}, 4, step(2, 0, 1), step(2, 2, 3), step(0, 0, 3))
	// All is one node, but the axiom isn't in its set.
	x = probe.Tables("S : A a; A : a | A a")
	checkRefused(t, x, []int{0}, 1, step(find(t, x, 0), 0, 1))
	if !parse.Accepts(x, []int{0, 0}) {
		t.Error("a a is refused")
	}
	// The axiom derives nothing at all.
	x = probe.Tables("S : a S")
	checkRefused(t, x, nil, 0)
	checkRefused(t, x, []int{0, 0}, 2)
}

func TestNoTables(t *testing.T) {
	for _, tokens := range [][]int{nil, {}, {0}, {-1}, {math.MaxInt}, make([]int, api.MaxTokens), make([]int, api.MaxTokens+1), slices.Repeat([]int{-1}, 2*api.MaxTokens)} {
		checkNoRun(t, nil, tokens, api.ErrArg)
	}
}

// TestTablesThatNothingMade: they have no terminals, and start nowhere.
func TestTablesThatNothingMade(t *testing.T) {
	x := new(tables.Tables)
	checkRefused(t, x, nil, 0)
	for _, token := range []int{0, 1, -1} {
		checkNoRun(t, x, []int{token}, api.ErrArg)
	}
	checkNoRun(t, x, make([]int, api.MaxTokens+1), api.ErrLong)
}

// TestWhatIsNoTerminal: wherever it stands, it goes ahead of any refusal. The end is no token.
func TestWhatIsNoTerminal(t *testing.T) {
	x := probe.Tables(nest)
	for _, no := range []int{-1, -2, x.Terms(), x.Terms() + 1, api.MaxSymbols, 64, math.MinInt, math.MaxInt} {
		for _, tokens := range [][]int{nil, {a, b}, {a, a, b, b}, {b}, {a, b, a, a}, {a, a}} {
			for at := range len(tokens) + 1 {
				checkNoRun(t, x, slices.Insert(slices.Clone(tokens), at, no), api.ErrArg)
			}
		}
		full := append(slices.Repeat([]int{a}, api.MaxTokens-1), no)
		checkNoRun(t, x, full, api.ErrArg)
	}
}

// TestTooManyTokens: that goes ahead of a token that is none, and of a refusal.
func TestTooManyTokens(t *testing.T) {
	x := probe.Tables("S : S a | a")
	full := make([]int, api.MaxTokens)
	if !parse.Accepts(x, full) {
		t.Error("65536 tokens are refused")
	}
	checkNoRun(t, x, append(full, 0), api.ErrLong)
	checkNoRun(t, x, append(full, 1), api.ErrLong)
	checkNoRun(t, x, slices.Repeat([]int{-1}, api.MaxTokens+1), api.ErrLong)
	checkNoRun(t, x, make([]int, 3*api.MaxTokens), api.ErrLong)
	x = probe.Tables(nest)
	checkNoRun(t, x, slices.Repeat([]int{b}, api.MaxTokens+1), api.ErrLong)
	checkRefused(t, x, slices.Repeat([]int{b}, api.MaxTokens), 0)
	checkRefused(t, x, full, api.MaxTokens)
}

// TestTheErrorIsAPlaceError: of a refusal alone, with ErrRefused itself in it.
func TestTheErrorIsAPlaceError(t *testing.T) {
	x := probe.Tables(nest)
	for _, tokens := range [][]int{{b}, {a, b, a}, {a}, nil} {
		_, err := parse.Parse(x, tokens)
		var p *api.PlaceError
		if !errors.As(err, &p) || err != error(p) || p.Err != api.ErrRefused {
			t.Errorf("%v: %v", tokens, err)
		}
	}
	if _, err := parse.Parse(x, []int{2}); err != api.ErrArg {
		t.Errorf("ErrArg: %v", err)
	}
	if _, err := parse.Parse(x, []int{a, b}); err != nil {
		t.Errorf("nil: %v", err)
	}
}

// TestExamples is the table of chapter 17, and what the page's examples tell of runs.
func TestExamples(t *testing.T) {
	x := probe.Tables(nest)
	checkRun(t, x, []int{a, a, b, b}, parse.Run{
		Shifts: 4, Made: steps(step(1, 1, 3), step(0, 0, 4)), Tree: steps(step(0, 0, 4), step(1, 1, 3)),
	}, probe.Bare(nil))
	checkRefused(t, x, []int{a, a, b}, 3, step(1, 1, 3))
	checkRefused(t, x, []int{b}, 0)
	checkRefused(t, x, nil, 0)
	checkRefused(t, x, []int{a, b, a}, 2)
	checkNoRun(t, x, []int{a, 2}, api.ErrArg)
	checkNoRun(t, nil, []int{a, b}, api.ErrArg)

	// Example 2 of the page.
	checkRun(t, probe.Tables(plus), []int{i, sum, i, sum, i}, parse.Run{
		Shifts: 5,
		Made:   steps(step(2, 0, 1), step(2, 2, 3), step(0, 0, 3), step(2, 4, 5), step(1, 0, 5)),
		Tree:   steps(step(1, 0, 5), step(0, 0, 3), step(2, 0, 1), step(2, 2, 3), step(2, 4, 5)),
	}, probe.Bare(nil))
}
