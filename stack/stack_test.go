package stack_test

import (
	"math"
	"slices"
	"testing"

	"dovetail/api"
	"dovetail/probe"
	"dovetail/stack"
	"dovetail/tables"
)

// Grammars of the page's examples.
const (
	nest = "S : a S b | a b"
	plus = "E : E + T | T; T : i"
)

// Terminals of nest and plus.
const (
	a = 0
	b = 1

	sum = 0
	i   = 1
)

// came is a stack that terminals were laid on, none refused.
func came(t *testing.T, s *stack.Stack, terms ...int) *stack.Stack {
	t.Helper()
	for at, term := range terms {
		if err := s.Shift(term); err != nil {
			t.Fatalf("Shift of %v, at %d: %v", terms, at, err)
		}
	}
	return s
}

// took is a stack that took pieces, none refused.
func took(t *testing.T, s *stack.Stack, pieces ...api.Piece) *stack.Stack {
	t.Helper()
	for _, p := range pieces {
		if err := s.Take(p); err != nil {
			t.Fatalf("Take of %v at %d: %v", p, s.Place(), err)
		}
	}
	return s
}

// refused is a stack on which the last of terminals wasn't laid.
func refused(t *testing.T, s *stack.Stack, terms ...int) *stack.Stack {
	t.Helper()
	last := len(terms) - 1
	came(t, s, terms[:last]...)
	checkFault(t, s.Shift(terms[last]), api.ErrRefused)
	return s
}

// checkFault wants an error that tells just this.
func checkFault(t *testing.T, err, want error) {
	t.Helper()
	if probe.FaultOf(err) != probe.Bare(want) {
		t.Errorf("%v, want %v", err, want)
	}
}

// checkStack wants a stack without a left side that has this piece, and of all of its steps those made.
func checkStack(t *testing.T, s *stack.Stack, want api.Piece, made ...api.Step) {
	t.Helper()
	if got, err := s.Piece(); err != nil || !samePiece(got, want) {
		t.Errorf("Piece: %v, %v, want %v", got, err, want)
	}
	checkMade(t, s, want.To, made...)
}

func checkMade(t *testing.T, s *stack.Stack, place int, made ...api.Step) {
	t.Helper()
	if s.Place() != place || !slices.Equal(s.Made(), made) {
		t.Errorf("Place %d, Made %v, want %d, %v", s.Place(), s.Made(), place, made)
	}
}

// checkNoPiece wants an error of Piece, and nothing else.
func checkNoPiece(t *testing.T, s *stack.Stack, want error) {
	t.Helper()
	p, err := s.Piece()
	checkFault(t, err, want)
	if !samePiece(p, api.Piece{}) {
		t.Errorf("Piece: %v beside %v", p, err)
	}
}

// checkTree wants a tree of End, and that of those steps it made those at the end of made.
func checkTree(t *testing.T, s *stack.Stack, want, made []api.Step) {
	t.Helper()
	place := s.Place()
	if got, err := s.End(); err != nil || !slices.Equal(got, want) {
		t.Errorf("End: %v, %v, want %v", got, err, want)
	}
	checkMade(t, s, place, made...)
}

func checkNoTree(t *testing.T, s *stack.Stack, want error) {
	t.Helper()
	got, err := s.End()
	checkFault(t, err, want)
	if len(got) > 0 {
		t.Errorf("End: %v beside %v", got, err)
	}
}

// P16.1

func TestNew(t *testing.T) {
	x := probe.Tables(nest)
	for _, from := range []int{0, 1, 5, api.MaxTokens - 1, api.MaxTokens} {
		checkStack(t, stack.New(x, from), piece(from))
	}
	for _, from := range []int{-1, -5, math.MinInt, api.MaxTokens + 1, 2 * api.MaxTokens, math.MaxInt} {
		if stack.New(x, from) != nil {
			t.Errorf("a stack from %d on", from)
		}
	}
	for _, from := range []int{0, 7, -1, api.MaxTokens + 1} {
		if stack.New(nil, from) != nil {
			t.Error("a stack of nil tables")
		}
	}
}

func TestWholeIsWhole(t *testing.T) {
	if stack.Whole(nil) != nil {
		t.Error("a stack of nil tables")
	}
	s := stack.Whole(probe.Tables(nest))
	checkMade(t, s, 0)
	checkNoPiece(t, s, api.ErrArg)
	// The end yields to a, and has no relation to b.
	checkMade(t, came(t, s, a), 1)
	checkFault(t, stack.Whole(probe.Tables(nest)).Shift(b), api.ErrRefused)
}

// TestTablesThatNothingMade: they have no terminals.
func TestTablesThatNothingMade(t *testing.T) {
	x := new(tables.Tables)
	s := stack.New(x, 3)
	checkFault(t, s.Shift(0), api.ErrArg)
	checkFault(t, s.Take(piece(3, term(0, 3))), api.ErrForm)
	checkStack(t, took(t, s, piece(3)), piece(3))
	checkFault(t, stack.Whole(x).Shift(0), api.ErrArg)
	checkNoTree(t, stack.Whole(x), api.ErrRefused)
}

// P16.2

// TestShift: what each terminal makes of the stack, from its first one on.
func TestShift(t *testing.T) {
	s := stack.New(probe.Tables(nest), 5)
	checkStack(t, came(t, s, a), piece(5, term(a, 5)))
	checkStack(t, came(t, s, a), piece(5, term(a, 5), term(a, 6)))
	checkStack(t, came(t, s, b), piece(5, term(a, 5), term(a, 6), term(b, 7)))
	inner := step(1, 6, 8)
	checkStack(t, came(t, s, b), with(piece(5, term(a, 5), node(0, 6, 8), term(b, 8)), inner), inner)
	// The b takes the next one, but nothing yields to the a that is equal to it.
	checkStack(t, came(t, s, b), with(piece(5, term(a, 5), node(0, 6, 8), term(b, 8), term(b, 9)), inner), inner)
	checkStack(t, came(t, s, b, b), with(piece(5, term(a, 5), node(0, 6, 8), term(b, 8), term(b, 9), term(b, 10), term(b, 11)), inner), inner)
}

// TestShiftOnAWholeStack: the end yields, so all is reduced that has an end.
func TestShiftOnAWholeStack(t *testing.T) {
	s := stack.Whole(probe.Tables(plus))
	checkMade(t, came(t, s, i), 1)
	checkMade(t, came(t, s, sum), 2, step(2, 0, 1))
	checkMade(t, came(t, s, i), 3, step(2, 0, 1))
	checkMade(t, came(t, s, sum), 4, step(2, 0, 1), step(2, 2, 3), step(0, 0, 3))
	checkMade(t, came(t, s, i), 5, step(2, 0, 1), step(2, 2, 3), step(0, 0, 3))
}

// TestShiftWithoutALeftSide: what is taken stays, unless something yields to it.
func TestShiftWithoutALeftSide(t *testing.T) {
	x := probe.Tables(plus)
	checkStack(t, came(t, stack.New(x, 0), i, sum, i), piece(0, term(i, 0), term(sum, 1), term(i, 2)))
	one := step(2, 2, 3)
	checkStack(t, came(t, stack.New(x, 0), i, sum, i, sum, i), with(piece(0, term(i, 0), term(sum, 1), node(1, 2, 3), term(sum, 3), term(i, 4)), one), one)
	checkStack(t, came(t, stack.New(x, 0), sum, sum, sum), piece(0, term(sum, 0), term(sum, 1), term(sum, 2)))
}

// TestSeveralReductionsAtOnce: one terminal may have several made, from the inner one on.
func TestSeveralReductionsAtOnce(t *testing.T) {
	x := probe.Tables("E : T ^ E | T; T : i")
	const up, i = 0, 1
	s := came(t, stack.Whole(x), i, up, i, up, i)
	checkMade(t, s, 5, step(2, 0, 1), step(2, 2, 3))
	checkTree(t, s, steps(step(1, 0, 5), step(2, 0, 1), step(0, 2, 5), step(2, 2, 3), step(2, 4, 5)),
		steps(step(2, 0, 1), step(2, 2, 3), step(2, 4, 5), step(0, 2, 5), step(1, 0, 5)))
}

// TestTheHandle: it begins behind the terminal that yields, whatever node stands there, and is all behind that, equal terminals and nodes.
func TestTheHandle(t *testing.T) {
	x := probe.Tables("S : ( A ) | i; A : S b S c S | b c S | S b c")
	const open, shut, i, b, c = 0, 1, 2, 3, 4
	s := came(t, stack.New(x, 0), open, i, b, i, c, i, shut)
	all := s.Made()
	if p, err := s.Piece(); err != nil || len(p.Items) != 3 || p.Items[1].From != 1 || p.Items[1].To != 6 || len(all) != 4 || all[3].From != 1 || all[3].To != 6 {
		t.Errorf("Piece: %v, %v", p, err)
	}
	for _, terms := range [][]int{{open, b, c, i, shut}, {open, i, b, c, shut}} {
		p, err := came(t, stack.New(x, 0), terms...).Piece()
		if err != nil || len(p.Items) != 3 || p.Items[1].From != 1 || p.Items[1].To != 4 || len(p.Steps) != 2 {
			t.Errorf("Piece of %v: %v, %v", terms, p, err)
		}
	}
	// Of these there is no rule, or no relation.
	for _, terms := range [][]int{{open, b, c, shut}, {open, i, b, i, shut}, {open, i, c}} {
		refused(t, stack.New(x, 0), terms...)
	}
}

func TestShiftIsRefused(t *testing.T) {
	x := probe.Tables(nest)
	refused(t, stack.New(x, 0), b, a)
	refused(t, stack.New(x, 0), a, b, a)
	refused(t, stack.New(x, 0), a, a, b, b, a)
	refused(t, stack.Whole(x), b)
	refused(t, stack.Whole(x), a, b, b)
	refused(t, stack.Whole(x), a, b, a)
	x = probe.Tables(plus)
	refused(t, stack.New(x, 0), i, i)
	refused(t, stack.New(x, 0), sum, sum, sum, i, i)
	// The handle + has no rule.
	refused(t, stack.Whole(x), sum, sum)
	refused(t, stack.Whole(x), i, sum, sum)
}

func TestShiftOfWhatIsNoTerminal(t *testing.T) {
	x := probe.Tables(nest)
	for _, s := range []*stack.Stack{stack.New(x, 0), stack.Whole(x), stack.New(x, api.MaxTokens), refused(t, stack.New(x, 0), b, a), refused(t, stack.Whole(x), b)} {
		place := s.Place()
		for _, no := range []int{-1, -2, x.Terms(), x.Terms() + 1, api.MaxSymbols, 64, math.MinInt, math.MaxInt} {
			checkFault(t, s.Shift(no), api.ErrArg)
			checkMade(t, s, place)
		}
	}
	s := came(t, stack.New(x, 0), a)
	checkFault(t, s.Shift(x.Terms()), api.ErrArg)
	checkStack(t, came(t, s, b), piece(0, term(a, 0), term(b, 1)))
}

func TestShiftAtTheBound(t *testing.T) {
	x := probe.Tables(nest)
	s := stack.New(x, api.MaxTokens)
	checkFault(t, s.Shift(a), api.ErrLong)
	checkStack(t, s, piece(api.MaxTokens))
	s = came(t, stack.New(x, api.MaxTokens-2), a, a)
	// It is the place that is looked at, ahead of relations.
	for _, term := range []int{a, b, a} {
		checkFault(t, s.Shift(term), api.ErrLong)
		checkStack(t, s, piece(api.MaxTokens-2, term2(a, api.MaxTokens-2)...))
	}
	s = came(t, stack.New(x, api.MaxTokens-1), b)
	checkFault(t, s.Shift(a), api.ErrLong)
	checkStack(t, s, piece(api.MaxTokens-1, term(b, api.MaxTokens-1)))
}

// term2 is a terminal twice.
func term2(of, at int) []api.Item { return []api.Item{term(of, at), term(of, at+1)} }

// P16.3

// TestTake: each terminal of a piece is laid on, each node comes with its tree.
func TestTake(t *testing.T) {
	x := probe.Tables(nest)
	s := took(t, stack.New(x, 4), with(piece(4, term(a, 4), node(0, 5, 7), term(b, 7)), step(1, 5, 7)))
	checkStack(t, s, with(piece(4, term(a, 4), node(0, 5, 7), term(b, 7)), step(1, 5, 7)))
	checkStack(t, took(t, s, piece(8, term(b, 8))), with(piece(4, term(a, 4), node(0, 5, 7), term(b, 7), term(b, 8)), step(1, 5, 7)))
	// Ahead of it something yields, so what stands alone is reduced as soon as it is taken.
	s = took(t, came(t, stack.New(x, 3), a), with(piece(4, term(a, 4), node(0, 5, 7), term(b, 7)), step(1, 5, 7)))
	checkStack(t, s, with(piece(3, term(a, 3), term(a, 4), node(0, 5, 7), term(b, 7)), step(1, 5, 7)))
	checkStack(t, came(t, s, b), with(piece(3, term(a, 3), node(0, 4, 8), term(b, 8)), step(0, 4, 8), step(1, 5, 7)), step(0, 4, 8))
}

// TestTakeReducesInsideThePiece: its own terminals lay on each other.
func TestTakeReducesInsideThePiece(t *testing.T) {
	x := probe.Tables(nest)
	s := took(t, came(t, stack.New(x, 0), a, a, a), piece(3, term(b, 3), term(b, 4), term(b, 5)))
	made := steps(step(1, 2, 4), step(0, 1, 5))
	checkStack(t, s, with(piece(0, term(a, 0), node(0, 1, 5), term(b, 5)), made[1], made[0]), made...)
	w := took(t, came(t, stack.Whole(x), a, a, a), piece(3, term(b, 3), term(b, 4), term(b, 5)))
	checkMade(t, w, 6, made...)
	checkTree(t, w, steps(step(0, 0, 6), made[1], made[0]), append(made, step(0, 0, 6)))
}

func TestTakeOfNothing(t *testing.T) {
	x := probe.Tables(nest)
	for _, from := range []int{0, 9, api.MaxTokens} {
		checkStack(t, took(t, stack.New(x, from), piece(from), piece(from)), piece(from))
	}
	s := came(t, stack.New(x, 2), a, a, b)
	checkStack(t, took(t, s, piece(5)), piece(2, term(a, 2), term(a, 3), term(b, 4)))
}

// ruleOf is the rule of the normal form with that right side, and its Left.
func ruleOf(t *testing.T, x *tables.Tables, right ...int) (rule, set int) {
	t.Helper()
	rule, ok := x.Find(right)
	if !ok {
		t.Fatalf("no rule %v", right)
	}
	set, _ = x.Left(rule)
	return rule, set
}

// TestTakeIsRefused: at the first terminal that can't be laid on; the items ahead of it are.
func TestTakeIsRefused(t *testing.T) {
	x := probe.Tables(nest)
	s := came(t, stack.New(x, 0), b)
	checkFault(t, s.Take(piece(1, term(a, 1), term(b, 2))), api.ErrRefused)
	checkMade(t, s, 1)
	checkNoPiece(t, s, api.ErrRefused)

	x = probe.Tables("S : x N y | z; N : p t M | t q; M : m")
	const ex, y, p, tt, m = 0, 1, 3, 4, 6
	one, set := ruleOf(t, x, m)
	all, _ := ruleOf(t, x, p, tt, -1-set)
	right := with(piece(2, term(tt, 2), node(set, 3, 4), term(y, 4)), step(one, 3, 4))
	s = took(t, came(t, stack.Whole(x), ex, p), right)
	checkMade(t, s, 5, step(all, 1, 4))
	// Where no p is ahead of t and M there is no rule.
	s = came(t, stack.New(x, 1), ex)
	checkFault(t, s.Take(right), api.ErrRefused)
	checkMade(t, s, 4)
	checkNoPiece(t, s, api.ErrRefused)
}

// TestRefusedBehindReductions: what the terminal that is refused had reduced by then stays.
func TestRefusedBehindReductions(t *testing.T) {
	x := probe.Tables("S : x P y | w P z; P : Q | p Q; Q : i")
	const ex, w, z, p, i = 0, 2, 3, 4, 5
	one, set := ruleOf(t, x, i)
	both, _ := ruleOf(t, x, p, -1-set)
	s := came(t, stack.New(x, 0), w, p, i, z)
	checkMade(t, s, 4, step(one, 2, 3), step(both, 1, 3))
	s = refused(t, stack.New(x, 0), ex, p, i, z)
	checkMade(t, s, 3, step(one, 2, 3), step(both, 1, 3))
	s = came(t, stack.Whole(x), ex, p)
	checkFault(t, s.Take(piece(2, term(i, 2), term(z, 3))), api.ErrRefused)
	checkMade(t, s, 3, step(one, 2, 3), step(both, 1, 3))
	checkNoTree(t, s, api.ErrRefused)
	checkMade(t, s, 3, step(one, 2, 3), step(both, 1, 3))
	// At the end, too.
	s = came(t, stack.Whole(probe.Tables("S : x P y | P; P : i")), ex, 2)
	checkNoTree(t, s, api.ErrRefused)
	checkMade(t, s, 2, step(1, 1, 2))
}

// TestTakeErrors: each ahead of all behind it.
func TestTakeErrors(t *testing.T) {
	x := probe.Tables(nest)
	long := api.Piece{From: 7, To: api.MaxTokens + 1, Items: []api.Item{term(9, 9)}}
	wrong := piece(7, node(0, 7, 9))
	away := piece(7, term(a, 7))
	ended := came(t, stack.Whole(x), a, b)
	if _, err := ended.End(); err != nil {
		t.Fatal(err)
	}
	for _, p := range []api.Piece{long, wrong, away, piece(2), piece(2, term(a, 2)), {}} {
		checkFault(t, ended.Take(p), api.ErrArg)
	}
	whole := refused(t, stack.Whole(x), b)
	open := refused(t, stack.New(x, 0), b, a)
	fresh := came(t, stack.New(x, 0), b)
	for _, s := range []*stack.Stack{whole, open, fresh} {
		place := s.Place()
		checkFault(t, s.Take(long), api.ErrLong)
		checkFault(t, s.Take(wrong), api.ErrForm)
		checkFault(t, s.Take(away), api.ErrForm)
		checkFault(t, s.Take(piece(place+1)), api.ErrForm)
		checkFault(t, s.Take(piece(place+1, term(b, place+1))), api.ErrForm)
		if s != fresh {
			checkFault(t, s.Take(piece(place)), api.ErrRefused)
			checkFault(t, s.Take(piece(place, term(b, place))), api.ErrRefused)
		}
		checkMade(t, s, place)
	}
	checkFault(t, fresh.Take(piece(0)), api.ErrForm)
	checkStack(t, took(t, fresh, piece(1, term(b, 1))), piece(0, term(b, 0), term(b, 1)))
}

// P16.4

func TestEnd(t *testing.T) {
	cases := []struct {
		text  string
		terms []int
		tree  []api.Step
		made  []api.Step
	}{
		{nest, []int{a, b}, steps(step(1, 0, 2)), steps(step(1, 0, 2))},
		{nest, []int{a, a, b, b}, steps(step(0, 0, 4), step(1, 1, 3)), steps(step(1, 1, 3), step(0, 0, 4))},
		{plus, []int{i}, steps(step(2, 0, 1)), steps(step(2, 0, 1))},
		{plus, []int{i, sum, i, sum, i}, steps(step(1, 0, 5), step(0, 0, 3), step(2, 0, 1), step(2, 2, 3), step(2, 4, 5)), steps(step(2, 0, 1), step(2, 2, 3), step(0, 0, 3), step(2, 4, 5), step(1, 0, 5))},
	}
	for _, c := range cases {
		checkTree(t, came(t, stack.Whole(probe.Tables(c.text)), c.terms...), c.tree, c.made)
	}
}

func TestEndIsRefused(t *testing.T) {
	cases := []struct {
		text  string
		terms []int
		made  []api.Step
	}{
		// Without items, and where a has no relation to the end, ahead of reductions and behind one.
		{nest, nil, nil},
		{nest, []int{a}, nil},
		{nest, []int{a, a, b}, steps(step(1, 1, 3))},
		// Without a rule: +, and a node that + stands behind, or ahead of.
		{plus, []int{sum}, nil},
		{plus, []int{i, sum}, steps(step(2, 0, 1))},
		{plus, []int{sum, i}, steps(step(2, 1, 2))},
		// The normal form doesn't start at A's set: the end yields to a, since it begins S.
		{"S : a b; A : b | a", []int{0}, nil},
	}
	for _, c := range cases {
		s := came(t, stack.Whole(probe.Tables(c.text)), c.terms...)
		checkNoTree(t, s, api.ErrRefused)
		if s.Place() != len(c.terms) {
			t.Errorf("%s: Place %d", c.text, s.Place())
		}
		if c.made != nil && !slices.Equal(s.Made(), c.made) {
			t.Errorf("%s: Made %v, want %v", c.text, s.Made(), c.made)
		}
	}
}

// TestEndWithoutAStart: the only item is a node, of a set in which the axiom isn't.
func TestEndWithoutAStart(t *testing.T) {
	x := probe.Tables("S : A a; A : a | A a")
	if x.Start(0) == x.Start(1) {
		t.Fatal("the sets are others")
	}
	s := came(t, stack.Whole(x), 0)
	checkNoTree(t, s, api.ErrRefused)
	rule, _ := ruleOf(t, x, 0)
	checkMade(t, s, 1, step(rule, 0, 1))
	if _, err := came(t, stack.Whole(x), 0, 0).End(); err != nil {
		t.Errorf("a a: %v", err)
	}
}

func TestEndOfWhatWasRefused(t *testing.T) {
	s := refused(t, stack.Whole(probe.Tables(nest)), a, a, b, b, a)
	checkNoTree(t, s, api.ErrRefused)
	checkMade(t, s, 4, step(1, 1, 3))
	s = refused(t, stack.Whole(probe.Tables(plus)), i, sum, sum)
	checkNoTree(t, s, api.ErrRefused)
	checkMade(t, s, 2, step(2, 0, 1))
}

func TestEndOfAStackThatIsNotWhole(t *testing.T) {
	x := probe.Tables(nest)
	for _, s := range []*stack.Stack{stack.New(x, 0), came(t, stack.New(x, 0), a, b), refused(t, stack.New(x, 0), b, a)} {
		place := s.Place()
		checkNoTree(t, s, api.ErrArg)
		checkMade(t, s, place)
	}
	// P0.3: what is refused so changes nothing.
	s := came(t, stack.New(x, 0), a)
	checkNoTree(t, s, api.ErrArg)
	checkStack(t, came(t, s, b), piece(0, term(a, 0), term(b, 1)))
	checkNoTree(t, s, api.ErrArg)
	checkStack(t, took(t, s, piece(2, term(b, 2))), piece(0, term(a, 0), term(b, 1), term(b, 2)))
}

// TestBehindEnd: whatever it answered.
func TestBehindEnd(t *testing.T) {
	x := probe.Tables(nest)
	for _, s := range []*stack.Stack{stack.Whole(x), came(t, stack.Whole(x), a, b), came(t, stack.Whole(x), a), came(t, stack.Whole(x), a, a, b), refused(t, stack.Whole(x), a, b, a)} {
		s.End()
		made, place := s.Made(), s.Place()
		for range 2 {
			checkFault(t, s.Shift(a), api.ErrArg)
			checkFault(t, s.Shift(b), api.ErrArg)
			checkFault(t, s.Take(piece(place)), api.ErrArg)
			checkFault(t, s.Take(piece(place, term(b, place))), api.ErrArg)
			checkNoTree(t, s, api.ErrArg)
			checkNoPiece(t, s, api.ErrArg)
			checkMade(t, s, place, made...)
		}
	}
}

// P16.5

func TestPieceBeginsWhereTheStackBegan(t *testing.T) {
	x := probe.Tables(nest)
	for _, from := range []int{0, 1, 100, api.MaxTokens - 4} {
		s := came(t, stack.New(x, from), a, a, b, b)
		checkStack(t, s, with(piece(from, term(a, from), node(0, from+1, from+3), term(b, from+3)), step(1, from+1, from+3)), step(1, from+1, from+3))
	}
}

// TestMadeTellsNothingThatCameIn: the trees of a piece's nodes are the stack's, but weren't made by it.
func TestMadeTellsNothingThatCameIn(t *testing.T) {
	x := probe.Tables(nest)
	p := with(piece(0, term(a, 0), node(0, 1, 5), term(b, 5)), step(0, 1, 5), step(1, 2, 4))
	checkStack(t, took(t, stack.New(x, 0), p), p)
	s := took(t, stack.Whole(x), p)
	checkMade(t, s, 6)
	checkTree(t, s, steps(step(0, 0, 6), step(0, 1, 5), step(1, 2, 4)), steps(step(0, 0, 6)))
}

func TestARefusedStackStaysAsItWas(t *testing.T) {
	x := probe.Tables(nest)
	s := refused(t, stack.New(x, 10), a, a, b, b, b, a)
	for range 2 {
		checkMade(t, s, 15, step(1, 11, 13))
		checkNoPiece(t, s, api.ErrRefused)
		checkFault(t, s.Shift(a), api.ErrRefused)
		checkFault(t, s.Shift(b), api.ErrRefused)
		checkFault(t, s.Take(piece(15, term(b, 15))), api.ErrRefused)
		checkFault(t, s.Take(piece(15)), api.ErrRefused)
		checkFault(t, s.Take(piece(16)), api.ErrForm)
		checkNoTree(t, s, api.ErrArg)
	}
	w := refused(t, stack.Whole(x), a, a, b, b, a)
	for range 2 {
		checkMade(t, w, 4, step(1, 1, 3))
		checkNoPiece(t, w, api.ErrArg)
		checkFault(t, w.Shift(b), api.ErrRefused)
		checkFault(t, w.Take(piece(4, term(b, 4))), api.ErrRefused)
	}
}

// TestNoStack: neither a nil one nor one that nothing made does anything.
func TestNoStack(t *testing.T) {
	x := probe.Tables(nest)
	for _, s := range []*stack.Stack{nil, stack.New(nil, 0), stack.New(x, -1), new(stack.Stack)} {
		for range 2 {
			checkFault(t, s.Shift(0), api.ErrArg)
			checkFault(t, s.Shift(-1), api.ErrArg)
			checkFault(t, s.Take(api.Piece{}), api.ErrArg)
			checkFault(t, s.Take(api.Piece{To: math.MaxInt}), api.ErrArg)
			checkNoTree(t, s, api.ErrArg)
			checkNoPiece(t, s, api.ErrArg)
			checkMade(t, s, 0)
		}
	}
}

// TestExamples is the table of chapter 16, and what the page's examples tell of stacks.
func TestExamples(t *testing.T) {
	x := probe.Tables(nest)
	checkStack(t, came(t, stack.New(x, 5), a, b, b), piece(5, term(a, 5), term(b, 6), term(b, 7)))
	inner := with(piece(5, term(a, 5), node(0, 6, 8), term(b, 8)), step(1, 6, 8))
	checkStack(t, came(t, stack.New(x, 5), a, a, b, b), inner, step(1, 6, 8))
	if list, err := stack.Relations(x, inner); err != nil || !slices.Equal(list, []int{api.Equal}) {
		t.Errorf("Relations: %v, %v", list, err)
	}
	checkTree(t, came(t, stack.Whole(x), a, a, b, b), steps(step(0, 0, 4), step(1, 1, 3)), steps(step(1, 1, 3), step(0, 0, 4)))
	checkNoTree(t, stack.Whole(x), api.ErrRefused)
	checkNoTree(t, came(t, stack.Whole(x), a), api.ErrRefused)
	checkFault(t, stack.Whole(x).Shift(b), api.ErrRefused)
	checkFault(t, refused(t, stack.New(x, 0), b, a).Shift(b), api.ErrRefused)
	checkStack(t, took(t, came(t, stack.New(x, 0), a), piece(1, term(b, 1), term(b, 2))), piece(0, term(a, 0), term(b, 1), term(b, 2)))

	// Examples 3 and 4 of the page.
	y := probe.Tables(plus)
	right, _ := came(t, stack.New(y, 2), i, sum, i).Piece()
	s := took(t, stack.New(y, 0), piece(0, term(i, 0), term(sum, 1)), right)
	joined := with(piece(0, term(i, 0), term(sum, 1), node(1, 2, 3), term(sum, 3), term(i, 4)), step(2, 2, 3))
	checkStack(t, s, joined, step(2, 2, 3))
	checkTree(t, took(t, stack.Whole(y), joined), steps(step(1, 0, 5), step(0, 0, 3), step(2, 0, 1), step(2, 2, 3), step(2, 4, 5)), steps(step(2, 0, 1), step(0, 0, 3), step(2, 4, 5), step(1, 0, 5)))
	s = took(t, stack.New(x, 0), piece(0, term(a, 0)), piece(1, term(a, 1), term(b, 2)))
	checkStack(t, s, piece(0, term(a, 0), term(a, 1), term(b, 2)))
	checkStack(t, took(t, s, piece(3, term(b, 3))), with(piece(0, term(a, 0), node(0, 1, 3), term(b, 3)), step(1, 1, 3)), step(1, 1, 3))
}
