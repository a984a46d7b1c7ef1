package graph_test

import (
	"slices"
	"testing"

	"dovetail/api"
	"dovetail/graph"
	"dovetail/probe"
)

// answer is what all four calls tell of a graph.
type answer struct {
	parts                [][]int
	levels, round, order []int
	reach                []int
	partsErr, longestErr error
	orderErr, reachErr   error
}

func ask(n int, list edges, from ...int) answer {
	var a answer
	a.parts, a.partsErr = graph.Parts(n, list)
	a.levels, a.round, a.longestErr = graph.Longest(n, list)
	a.order, a.orderErr = graph.Order(n, list)
	a.reach, a.reachErr = graph.Reach(n, list, from...)
	return a
}

func (a answer) same(b answer) bool {
	return sameLists(a.parts, b.parts) && sameLists([][]int{a.levels, a.round, a.order, a.reach}, [][]int{b.levels, b.round, b.order, b.reach}) &&
		a.partsErr == b.partsErr && a.longestErr == b.longestErr && a.orderErr == b.orderErr && a.reachErr == b.reachErr
}

// lists are all lists of nodes of an answer.
func (a answer) lists() [][]int {
	return append(slices.Clone(a.parts), a.levels, a.round, a.order, a.reach)
}

// copied is an answer in memory of its own.
func (a answer) copied() answer {
	for _, list := range []*[]int{&a.levels, &a.round, &a.order, &a.reach} {
		*list = slices.Clone(*list)
	}
	a.parts = slices.Clone(a.parts)
	for k, part := range a.parts {
		a.parts[k] = slices.Clone(part)
	}
	return a
}

// spoil overwrites all lists of an answer, with the room behind them.
func (a answer) spoil() {
	for _, list := range a.lists() {
		fill(list[:cap(list)], 99)
	}
	fill(a.parts[:cap(a.parts)], []int{99})
}

func fill[T any](list []T, value T) {
	for k := range list {
		list[k] = value
	}
}

// graphs are those of which all that follows is to hold.
func graphs() []model { return slices.Concat(smallGraphs(), mixedGraphs(), greatGraphs()) }

// P12.5

func TestLevelsFall(t *testing.T) {
	tried := 0
	for _, m := range graphs() {
		levels, _, err := graph.Longest(m.n, m.edges)
		if err != nil {
			t.Fatal(err)
		}
		if len(levels) == 0 {
			continue
		}
		tried++
		greatest := make([]int, m.n)
		for _, e := range m.edges {
			if levels[e[0]] < levels[e[1]]+1 {
				t.Fatalf("%v: the levels %v along %v", m.edges, levels, e)
			}
			greatest[e[0]] = max(greatest[e[0]], levels[e[1]]+1)
		}
		// So a node has an edge to the level just below; of the level 0 it has none.
		if !slices.Equal(greatest, levels) {
			t.Fatalf("%v: the levels %v", m.edges, levels)
		}
	}
	if tried < 600 {
		t.Errorf("only %d graphs have levels", tried)
	}
}

// P12.6

func TestRoundsAreRounds(t *testing.T) {
	tried := 0
	for _, m := range graphs() {
		_, round, _ := graph.Longest(m.n, m.edges)
		if len(round) == 0 {
			continue
		}
		tried++
		for _, e := range ring(round...) {
			if !m.edge[e[0]][e[1]] {
				t.Fatalf("%v: the round %v, without an edge %v", m.edges, round, e)
			}
		}
		if rising := slices.Compact(slices.Sorted(slices.Values(round))); len(rising) != len(round) || rising[0] != round[0] {
			t.Fatalf("%v: the round %v", m.edges, round)
		}
	}
	if tried < 600 {
		t.Errorf("only %d graphs have rounds", tried)
	}
}

// TestLevelsPartsAndOrder: there are levels just if each part is of one node without an edge to itself, and just if there is an order.
func TestLevelsPartsAndOrder(t *testing.T) {
	for _, m := range graphs() {
		a := ask(m.n, m.edges)
		flat := len(a.parts) == m.n && !slices.ContainsFunc(m.edges, func(e [2]int) bool { return e[0] == e[1] })
		if flat != (len(a.round) == 0) || flat != (a.orderErr == nil) || flat != (len(a.levels) == m.n && len(a.order) == m.n) && m.n > 0 {
			t.Fatalf("%d nodes, %v: %v", m.n, m.edges, a)
		}
		// A round is within a part.
		if !flat && !slices.ContainsFunc(a.parts, func(part []int) bool { return within(a.round, part) }) {
			t.Fatalf("%d nodes, %v: the round %v, the parts %v", m.n, m.edges, a.round, a.parts)
		}
	}
}

func within(list, other []int) bool {
	return !slices.ContainsFunc(list, func(node int) bool { return !slices.Contains(other, node) })
}

// P12.7

func TestWhateverTheOrder(t *testing.T) {
	var numbers probe.Numbers
	for _, m := range graphs() {
		from := numbers.Order(m.n)[:numbers.Below(m.n+1)]
		want := ask(m.n, m.edges, from...)
		turned := slices.Clone(m.edges)
		slices.Reverse(turned)
		var moved edges
		for _, k := range numbers.Order(len(m.edges)) {
			moved = append(moved, m.edges[k])
		}
		again := slices.Repeat(moved, min(3, graph.MaxEdges/max(1, len(moved))))
		for _, list := range []edges{turned, moved, again} {
			if got := ask(m.n, list, from...); !got.same(want) {
				t.Fatalf("%d nodes, %v: %v, and in the order %v: %v", m.n, m.edges, want, list, got)
			}
		}
		slices.Reverse(from)
		if got := ask(m.n, m.edges, append(from, from...)...); !got.same(want) {
			t.Fatalf("%d nodes, %v: %v, and from %v: %v", m.n, m.edges, want, from, got)
		}
	}
}

// TestOneEdgeAgain: each edge of a graph once more, ahead of the others and behind them.
func TestOneEdgeAgain(t *testing.T) {
	for _, m := range slices.Concat(smallGraphs(), mixedGraphs()) {
		want := ask(m.n, m.edges)
		for _, e := range m.edges {
			for _, list := range []edges{slices.Concat(edges{e}, m.edges), slices.Concat(m.edges, edges{e})} {
				if got := ask(m.n, list); !got.same(want) {
					t.Fatalf("%d nodes, %v: %v, with %v again: %v", m.n, m.edges, want, e, got)
				}
			}
		}
	}
}

// P12.8

// roomy is a list in new memory, with spare room that holds what a call that went too far would take for more of it.
func roomy[T any](list []T, spare T) []T {
	return append(slices.Clone(list), spare, spare)[:len(list)]
}

func TestNothingIsChanged(t *testing.T) {
	var numbers probe.Numbers
	for _, m := range graphs() {
		from := roomy(numbers.Order(m.n)[:numbers.Below(m.n+1)], 0)
		list := roomy(m.edges, [2]int{0, 0})
		wasFrom, wasList := slices.Clone(from[:len(from)+2]), slices.Clone(list[:len(list)+2])
		ask(m.n, list, from...)
		// Refused ones are left as they are, too.
		ask(m.n-1, list, from...)
		ask(-1, list, from...)
		if !slices.Equal(from[:len(from)+2], wasFrom) || !slices.Equal(list[:len(list)+2], wasList) {
			t.Fatalf("%v, %v became %v, %v", wasList, wasFrom, list[:len(list)+2], from[:len(from)+2])
		}
	}
}

// TestNothingIsKept: what was handed in may be changed later, with the room behind it, and what was answered is as it was.
func TestNothingIsKept(t *testing.T) {
	var numbers probe.Numbers
	for _, m := range graphs() {
		from := roomy(numbers.Order(m.n), 0)
		list := roomy(m.edges, [2]int{0, 0})
		got := ask(m.n, list, from...)
		want := got.copied()
		fill(from[:cap(from)], 77)
		fill(list[:cap(list)], [2]int{7, 7})
		if !got.same(want) {
			t.Fatalf("%v: %v became %v", m.edges, want, got)
		}
	}
}

// TestAnswersAreApart: no two lists share memory, of one answer or of two, nor with what is handed in; and one that is overwritten changes no other answer.
func TestAnswersAreApart(t *testing.T) {
	var numbers probe.Numbers
	for _, m := range graphs() {
		// A list that is in order already is a new one, too.
		for _, from := range [][]int{probe.UpTo(m.n), numbers.Order(m.n), {}} {
			a, b := ask(m.n, m.edges, from...), ask(m.n, m.edges, from...)
			if !probe.Apart(slices.Concat(a.lists(), b.lists(), [][]int{from})...) || !probe.Apart(a.parts, b.parts) {
				t.Fatalf("%v: lists of %v, of %v and of what is handed in share memory", m.edges, a, b)
			}
			want := b.copied()
			a.spoil()
			if !b.same(want) || !ask(m.n, m.edges, from...).same(want) {
				t.Fatalf("%v: %v became %v", m.edges, want, b)
			}
		}
	}
}

// TestRefusedCallsChangeNothing: what is answered is the same behind them.
func TestRefusedCallsChangeNothing(t *testing.T) {
	for _, m := range mixedGraphs()[:200] {
		want := ask(m.n, m.edges, 0)
		checkError(t, 257, m.edges, api.ErrLong)
		checkError(t, -1, m.edges, api.ErrArg)
		checkError(t, m.n, append(slices.Clone(m.edges), [2]int{0, m.n}), api.ErrArg)
		checkReachError(t, m.n, m.edges, []int{0, m.n}, api.ErrArg)
		if got := ask(m.n, m.edges, 0); !got.same(want) {
			t.Fatalf("%v: %v, and later %v", m.edges, want, got)
		}
	}
}

// TestExamples is the table of chapter 12.
func TestExamples(t *testing.T) {
	checkParts(t, 5, edges{{0, 1}, {1, 0}, {2, 1}, {3, 2}, {2, 3}}, []int{0, 1}, []int{2, 3}, []int{4})
	checkLevels(t, 4, edges{{0, 1}, {1, 2}, {0, 2}, {3, 2}}, 2, 1, 0, 1)
	checkRound(t, 4, edges{{3, 1}, {1, 3}, {0, 2}, {2, 0}}, 0, 2)
	checkRound(t, 3, edges{{0, 1}, {1, 2}, {2, 0}, {2, 2}}, 2)
	checkRound(t, 1, edges{{0, 0}}, 0)
	checkOrder(t, 4, edges{{3, 0}, {1, 0}}, 1, 2, 3, 0)
	checkNoOrder(t, 2, edges{{0, 1}, {1, 0}})
	list := edges{{0, 1}, {1, 0}, {2, 3}}
	checkReach(t, 4, list, []int{1}, 0, 1)
	checkReach(t, 4, list, nil)
	checkReachError(t, 4, list, []int{4}, api.ErrArg)
	checkParts(t, 0, nil)
	checkError(t, -1, nil, api.ErrArg)
	checkError(t, 2, edges{{0, 2}}, api.ErrArg)
	checkError(t, 257, nil, api.ErrLong)
}
