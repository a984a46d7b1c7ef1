package stack_test

import (
	"math"
	"slices"
	"testing"

	"dovetail/api"
	"dovetail/probe"
	"dovetail/stack"
	"dovetail/tables"
)

// P16.6

// wantRelations wants a piece that may be, with those relations.
func wantRelations(t *testing.T, x *tables.Tables, p api.Piece, want ...int) {
	t.Helper()
	checkFault(t, stack.Check(x, p), nil)
	if got, err := stack.Relations(x, p); err != nil || !slices.Equal(got, want) {
		t.Errorf("Relations of %v: %v, %v, want %v", p, got, err, want)
	}
	checkPiece(t, x, p)
}

// wantFault wants a piece that both calls refuse.
func wantFault(t *testing.T, x *tables.Tables, p api.Piece, want error) {
	t.Helper()
	err := stack.Check(x, p)
	relations, wrong := stack.Relations(x, p)
	if probe.FaultOf(err) != probe.Bare(want) || probe.FaultOf(wrong) != probe.Bare(want) || len(relations) > 0 {
		t.Errorf("%v: Check %v, Relations %v, %v, want %v", p, err, relations, wrong, want)
	}
}

// wrongs wants all these refused, as pieces that may not be.
func wrongs(t *testing.T, x *tables.Tables, pieces ...api.Piece) {
	t.Helper()
	for _, p := range pieces {
		wantFault(t, x, p, api.ErrForm)
		checkPiece(t, x, p)
	}
}

func TestPiecesThatMayBe(t *testing.T) {
	x := probe.Tables(nest)
	const yields, equal, takes = api.Yields, api.Equal, api.Takes
	for _, at := range []int{0, 1, 77, api.MaxTokens} {
		wantRelations(t, x, piece(at))
	}
	wantRelations(t, x, piece(0, term(b, 0)))
	wantRelations(t, x, piece(api.MaxTokens-1, term(a, api.MaxTokens-1)))
	wantRelations(t, x, piece(3, term(a, 3), term(a, 4), term(a, 5)), yields, yields)
	wantRelations(t, x, piece(3, term(b, 3), term(b, 4), term(b, 5)), takes, takes)
	wantRelations(t, x, piece(3, term(a, 3), term(b, 4), term(b, 5)), equal, takes)
	wantRelations(t, x, piece(3, term(a, 3), term(a, 4), term(b, 5)), yields, equal)
	wantRelations(t, x, with(piece(0, term(a, 0), node(0, 1, 5), term(b, 5), term(b, 6)), step(0, 1, 5), step(1, 2, 4)), equal, takes)
	// Any nodes may stand between terminals, whatever comes of it.
	wantRelations(t, x, with(piece(0, term(b, 0), node(0, 1, 3), term(b, 3), node(0, 4, 6), term(b, 6)), step(1, 1, 3), step(1, 4, 6)), takes, takes)
	wantRelations(t, x, with(piece(0, term(a, 0), node(0, 1, 3), term(a, 3)), step(1, 1, 3)), yields)
	y := probe.Tables(plus)
	wantRelations(t, y, piece(0, term(i, 0), term(sum, 1), term(i, 2)), takes, yields)
	wantRelations(t, y, with(piece(0, term(i, 0), term(sum, 1), node(0, 2, 5), term(sum, 5), node(1, 6, 7), term(sum, 7)),
		step(0, 2, 5), step(2, 2, 3), step(2, 4, 5), step(2, 6, 7)), takes, takes, takes)
}

func TestNilTablesCheckNothing(t *testing.T) {
	for _, p := range []api.Piece{{}, piece(0, term(0, 0)), {To: api.MaxTokens + 1}, {From: -1}} {
		wantFault(t, nil, p, api.ErrArg)
	}
}

// TestLongPieces: To is looked at ahead of all else.
func TestLongPieces(t *testing.T) {
	x := probe.Tables(nest)
	for _, to := range []int{api.MaxTokens + 1, 1 << 20, math.MaxInt} {
		for _, from := range []int{math.MinInt, -1, 0, api.MaxTokens, to, math.MaxInt} {
			wantFault(t, x, api.Piece{From: from, To: to}, api.ErrLong)
			wantFault(t, x, api.Piece{From: from, To: to, Items: []api.Item{node(9, from, to)}, Steps: steps(step(-1, from, to))}, api.ErrLong)
			checkPiece(t, x, api.Piece{From: from, To: to})
		}
	}
	wantFault(t, x, piece(api.MaxTokens-1, term(a, api.MaxTokens-1), term(a, api.MaxTokens)), api.ErrLong)
	wantFault(t, x, piece(api.MaxTokens, term(a, api.MaxTokens)), api.ErrLong)
}

func TestPlacesOfPieces(t *testing.T) {
	x := probe.Tables(nest)
	items := func(from, to int, items ...api.Item) api.Piece { return api.Piece{From: from, To: to, Items: items} }
	wrongs(t, x,
		// The piece's own.
		piece(-1), piece(math.MinInt), items(3, 2), items(2, 3), items(0, math.MinInt), items(math.MinInt, api.MaxTokens), items(math.MaxInt, 0),
		piece(-1, term(a, -1)), piece(-2, term(a, -2), term(a, -1), term(a, 0)), piece(math.MinInt, term(a, math.MinInt)),
		// The first item's and the last one's.
		items(0, 2, term(a, 0)), items(0, 2, term(a, 1)), items(1, 1, term(a, 1)), items(1, 2, term(a, 0)), items(2, 3, term(a, 1), term(a, 2)), items(3, 4, term(a, 1), term(a, 3)), items(1, 2, term(a, 1), term(a, 2)),
		// Others: a gap, one twice, in another order.
		items(0, 3, term(a, 0), term(a, 2)), items(0, 2, term(a, 0), term(a, 0)), items(0, 2, term(a, 0), term(a, 0), term(a, 1)), items(0, 2, term(a, 1), term(a, 0)), items(0, 1, term(a, 0), term(a, 1), term(a, 0)),
		// A terminal's.
		items(0, 2, api.Item{Term: a, Set: -1, From: 0, To: 2}), items(0, 0, api.Item{Term: a, Set: -1}), items(0, 2, api.Item{Term: a, Set: -1, From: 0, To: 0}, term(a, 0), term(a, 1)),
		items(0, 2, api.Item{Term: a, Set: -1, From: 0, To: math.MinInt}, term(a, math.MinInt)),
	)
}

func TestItemsOfPieces(t *testing.T) {
	x := probe.Tables(nest)
	for _, no := range []int{2, 3, 64, math.MaxInt, -1, -2, math.MinInt} {
		wrongs(t, x, piece(0, term(no, 0)), piece(0, term(a, 0), term(no, 1), term(b, 2)), piece(0, term(a, 0), term(no, 1)))
	}
	for _, no := range []int{0, 1, -2, math.MaxInt, math.MinInt} {
		wrongs(t, x, piece(0, api.Item{Term: a, Set: no, From: 0, To: 1}))
	}
	// A node first, last, alone, beside another one.
	tree := func(from int) api.Step { return step(1, from, from+2) }
	wrongs(t, x,
		with(piece(0, node(0, 0, 2)), tree(0)),
		with(piece(0, node(0, 0, 2), term(b, 2)), tree(0)),
		with(piece(0, term(a, 0), node(0, 1, 3)), tree(1)),
		with(piece(0, term(a, 0), node(0, 1, 3), node(0, 3, 5), term(b, 5)), tree(1), tree(3)),
		with(piece(0, term(a, 0), node(0, 1, 3), node(0, 3, 5), node(0, 5, 7), term(b, 7)), tree(1), tree(3), tree(5)),
	)
	// No such set, or one that isn't its tree's; no terminal and no node.
	for _, set := range []int{-1, -2, 1, 2, math.MinInt, math.MaxInt} {
		wrongs(t, x, with(piece(0, term(a, 0), node(set, 1, 3), term(b, 3)), tree(1)))
	}
	for _, no := range []int{-2, math.MinInt} {
		wrongs(t, x, with(piece(0, term(a, 0), api.Item{Term: no, Set: 0, From: 1, To: 3}, term(b, 3)), tree(1)))
	}
	wrongs(t, x, with(piece(0, term(a, 0), api.Item{Term: b, Set: 0, From: 1, To: 3}, term(b, 3)), tree(1)))
}

func TestRelationsOfPieces(t *testing.T) {
	x := probe.Tables(nest)
	row := func(terms ...int) api.Piece {
		var items []api.Item
		for at, of := range terms {
			items = append(items, term(of, at))
		}
		return piece(0, items...)
	}
	// No relation: at the beginning, in the middle, at the end, with a node between.
	wrongs(t, x, row(b, a), row(b, b, a, b), row(a, b, a), with(piece(0, term(b, 0), node(0, 1, 3), term(a, 3)), step(1, 1, 3)))
	// A complete handle: of one or two, at the beginning and the end, behind several that yield.
	wrongs(t, x, row(a, a, b, b), row(a, a, a, b, b), row(a, a, b, b, b))
	y := probe.Tables(plus)
	wrongs(t, y, row(sum, i, sum), row(sum, sum, i, sum), row(i, sum, i, sum), row(sum, i, sum, i))
	for _, terms := range [][]int{{sum, i}, {i, sum}, {sum, sum, i}, {i, sum, sum, i}, {i, sum, i}} {
		if err := checkPiece(t, y, row(terms...)); err != nil {
			t.Errorf("%v: %v", terms, err)
		}
	}
	// With nodes in the handle and around it.
	wrongs(t, x,
		with(piece(0, term(a, 0), term(a, 1), node(0, 2, 4), term(b, 4), term(b, 5)), step(1, 2, 4)),
		with(piece(0, term(a, 0), node(0, 1, 3), term(a, 3), term(b, 4), term(b, 5)), step(1, 1, 3)),
		with(piece(0, term(a, 0), term(a, 1), term(b, 2), node(0, 3, 5), term(b, 5)), step(1, 3, 5)),
	)
	// Of equal ones in a long row, ahead of which one yields, the last takes; or doesn't.
	z := probe.Tables("S : a c d | ( S ) | e S f")
	const one, two, three, open, shut, e, f = 0, 1, 2, 3, 4, 5, 6
	wrongs(t, z, row(open, one, two, three, shut), row(open, e, one, two, three, f, f), row(e, open, one, two, three, f), row(e, one, two, three, shut, f))
	wantRelations(t, z, row(open, one, two, three), api.Yields, api.Equal, api.Equal)
	wantRelations(t, z, row(one, two, three, shut, f, f), api.Equal, api.Equal, api.Takes, api.Takes, api.Takes)
	wantRelations(t, z, row(two, three, shut), api.Equal, api.Takes)
}

func TestTreesOfPieces(t *testing.T) {
	x := probe.Tables(nest)
	deep := piece(0, term(a, 0), node(0, 1, 7), term(b, 7))
	one, two, three := step(0, 1, 7), step(0, 2, 6), step(1, 3, 5)
	wantRelations(t, x, with(deep, one, two, three), api.Equal)
	// One less, one more, another order.
	wrongs(t, x,
		deep, with(deep, one), with(deep, one, two), with(deep, two, three), with(deep, one, three), with(deep, three),
		with(deep, one, two, three, three), with(deep, one, two, two, three), with(deep, one, one, two, three), with(deep, one, two, three, one, two, three), with(deep, one, two, three, step(1, 8, 10)), with(deep, step(1, 8, 10), one, two, three),
		with(deep, three, two, one), with(deep, one, three, two), with(deep, two, one, three), with(deep, three, one, two),
	)
	// Without nodes there are no steps.
	wrongs(t, x, with(piece(0), three), with(piece(0, term(a, 0)), three), with(piece(3, term(a, 3), term(b, 4)), three), with(piece(0), step(0, 0, 0)), with(piece(0), step(-1, 0, 0)))
	// Another rule, another interval.
	for at, of := range steps(one, two, three) {
		for _, rule := range []int{-1, 0, 1, 2, 3, 600, math.MinInt, math.MaxInt} {
			other := with(deep, one, two, three)
			if other.Steps[at].Rule = rule; rule != of.Rule {
				wrongs(t, x, other)
			}
		}
		for _, by := range []int{-2, -1, 1, 2, math.MinInt, math.MaxInt} {
			from, to := with(deep, one, two, three), with(deep, one, two, three)
			from.Steps[at].From += by
			to.Steps[at].To += by
			wrongs(t, x, from, to)
		}
	}
	// All of it elsewhere, or the node: bigger, smaller, moved.
	wrongs(t, x,
		with(deep, moved(with(deep, one, two, three), 1).Steps...), with(moved(deep, 1), one, two, three),
		with(piece(0, term(a, 0), node(0, 1, 8), term(b, 8)), one, two, three), with(piece(0, term(a, 0), node(0, 1, 6), term(b, 6)), one, two, three), with(piece(1, term(a, 1), node(0, 2, 7), term(b, 7)), one, two, three),
	)
}

// TestTreesOfSeveralSetsAndNodes: a step's children are of the sets that its rule has, each in its place, and so are the nodes' trees.
func TestTreesOfSeveralSetsAndNodes(t *testing.T) {
	x := probe.Tables(plus)
	row := piece(0, term(sum, 0), node(0, 1, 6), term(sum, 6), node(1, 7, 8), term(sum, 8))
	outer, left, first, second, third, alone := step(1, 1, 6), step(0, 1, 4), step(2, 1, 2), step(2, 3, 4), step(2, 5, 6), step(2, 7, 8)
	wantRelations(t, x, with(row, outer, left, first, second, third, alone), api.Takes, api.Takes)
	wrongs(t, x,
		with(row, alone, outer, left, first, second, third), with(row, outer, left, first, second, alone, third), with(row, outer, left, first, second, third), with(row, alone),
		with(row, outer, third, left, first, second, alone), with(row, outer, left, second, first, third, alone), with(row, outer, left, first, third, second, alone),
		// Of another set: two of {E T}, or {E} behind the +.
		with(row, step(0, 1, 6), left, first, second, third, alone), with(row, outer, step(1, 1, 4), first, second, third, alone), with(row, step(1, 1, 6), first, step(0, 3, 6), second, third, alone),
		// No place for the +, or two.
		with(row, outer, left, first, step(2, 2, 3), third, alone), with(row, outer, left, step(2, 0, 1), second, third, alone), with(row, outer, step(0, 1, 5), first, step(2, 4, 5), third, alone),
	)
	// The nodes' sets in each other's place.
	other := piece(0, term(sum, 0), node(1, 1, 2), term(sum, 2), node(0, 3, 6), term(sum, 6))
	trees := steps(step(2, 1, 2), step(0, 3, 6), step(2, 3, 4), step(2, 5, 6))
	wantRelations(t, x, with(other, trees...), api.Takes, api.Takes)
	other = piece(0, term(sum, 0), node(0, 1, 2), term(sum, 2), node(1, 3, 6), term(sum, 6))
	wrongs(t, x, with(other, trees...))
}

// TestPiecesWithAChange: those that random stacks have, each with one number another, or an item or a step less, more or elsewhere, are held against the words.
func TestPiecesWithAChange(t *testing.T) {
	var n probe.Numbers
	right, wrong := 0, 0
	for _, x := range probe.SomeTables() {
		for range 60 {
			p := anyPiece(&n, x, n.Below(12))
			if err := checkPiece(t, x, p); err != nil {
				t.Fatalf("%v: %v", p, err)
			}
			for range 40 {
				if checkPiece(t, x, changed(&n, p)) == nil {
					right++
				} else {
					wrong++
				}
			}
		}
	}
	if right < 500 || wrong < 20000 {
		t.Errorf("%d may be, %d may not", right, wrong)
	}
}

// TestSmallPieces are all of up to three items with numbers about those that may be, without steps and with one.
func TestSmallPieces(t *testing.T) {
	x := probe.Tables("S : a S b | c")
	var items []api.Item
	for at := range 4 {
		for of := -1; of <= 3; of++ {
			items = append(items, term(of, at))
		}
		for size := range 3 {
			items = append(items, node(0, at, at+size))
		}
	}
	right := 0
	try := func(row ...api.Item) {
		for _, list := range [][]api.Step{nil, steps(step(1, 1, 2)), steps(step(0, 1, 2)), steps(step(1, 0, 1))} {
			p := with(piece(row[0].From, row...), list...)
			if checkPiece(t, x, p) == nil {
				right++
			}
		}
	}
	for _, first := range items {
		try(first)
		for _, second := range items {
			try(first, second)
			for _, third := range items {
				try(first, second, third)
			}
		}
	}
	if right < 20 {
		t.Errorf("only %d may be", right)
	}
}

// TestPiecesOfAnyNumbers: whatever is handed in, both calls end.
func TestPiecesOfAnyNumbers(t *testing.T) {
	x := probe.Tables(nest)
	numbers := []int{math.MinInt, math.MinInt + 1, -2, -1, 0, 1, 2, api.MaxTokens - 1, api.MaxTokens, api.MaxTokens + 1, math.MaxInt - 1, math.MaxInt}
	var n probe.Numbers
	any := func() int { return numbers[n.Below(len(numbers))] }
	for range 50000 {
		p := api.Piece{From: any(), To: any()}
		for range n.Below(4) {
			p.Items = append(p.Items, api.Item{Term: any(), Set: any(), From: any(), To: any()})
		}
		for range n.Below(4) {
			p.Steps = append(p.Steps, step(any(), any(), any()))
		}
		checkPiece(t, x, p)
		if p.From < 0 || p.From > api.MaxTokens {
			continue
		}
		b := newTwo(x, p.From)
		b.take(t, p)
		b.check(t)
	}
}
