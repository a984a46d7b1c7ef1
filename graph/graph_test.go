package graph_test

import (
	"math"
	"slices"
	"testing"

	"dovetail/api"
	"dovetail/graph"
	"dovetail/probe"
)

func sameLists(a, b [][]int) bool { return slices.EqualFunc(a, b, slices.Equal[[]int]) }

func checkParts(t *testing.T, n int, list edges, want ...[]int) {
	t.Helper()
	if got, err := graph.Parts(n, list); !sameLists(got, want) || err != nil {
		t.Errorf("Parts(%d, %v): %v, %v, want %v", n, list, got, err, want)
	}
}

// checkLevels wants those levels, and no round.
func checkLevels(t *testing.T, n int, list edges, want ...int) {
	t.Helper()
	if levels, round, err := graph.Longest(n, list); !slices.Equal(levels, want) || len(round) > 0 || err != nil {
		t.Errorf("Longest(%d, %v): %v, %v, %v, want the levels %v", n, list, levels, round, err, want)
	}
}

// checkRound wants that round, and no levels.
func checkRound(t *testing.T, n int, list edges, want ...int) {
	t.Helper()
	if levels, round, err := graph.Longest(n, list); len(levels) > 0 || !slices.Equal(round, want) || err != nil {
		t.Errorf("Longest(%d, %v): %v, %v, %v, want the round %v", n, list, levels, round, err, want)
	}
}

func checkOrder(t *testing.T, n int, list edges, want ...int) {
	t.Helper()
	if got, err := graph.Order(n, list); !slices.Equal(got, want) || err != nil {
		t.Errorf("Order(%d, %v): %v, %v, want %v", n, list, got, err, want)
	}
}

func checkNoOrder(t *testing.T, n int, list edges) {
	t.Helper()
	if got, err := graph.Order(n, list); len(got) > 0 || probe.Which(err) != api.ErrNone {
		t.Errorf("Order(%d, %v): %v, %v, want ErrNone", n, list, got, err)
	}
}

func checkReach(t *testing.T, n int, list edges, from []int, want ...int) {
	t.Helper()
	if got, err := graph.Reach(n, list, from...); !slices.Equal(got, want) || err != nil {
		t.Errorf("Reach(%d, %v, %v): %v, %v, want %v", n, list, from, got, err, want)
	}
}

// checkError wants one error of all four calls, and nothing beside it.
func checkError(t *testing.T, n int, list edges, want error) {
	t.Helper()
	if got, err := graph.Parts(n, list); len(got) > 0 || probe.Which(err) != want {
		t.Errorf("Parts of %d nodes, %d edges: %v, %v, want %v", n, len(list), got, err, want)
	}
	if levels, round, err := graph.Longest(n, list); len(levels) > 0 || len(round) > 0 || probe.Which(err) != want {
		t.Errorf("Longest of %d nodes, %d edges: %v, %v, %v, want %v", n, len(list), levels, round, err, want)
	}
	if got, err := graph.Order(n, list); len(got) > 0 || probe.Which(err) != want {
		t.Errorf("Order of %d nodes, %d edges: %v, %v, want %v", n, len(list), got, err, want)
	}
	for _, from := range [][]int{nil, {0}, {0, 1}, {-1}, {math.MaxInt}} {
		checkReachError(t, n, list, from, want)
	}
}

func checkReachError(t *testing.T, n int, list edges, from []int, want error) {
	t.Helper()
	if got, err := graph.Reach(n, list, from...); len(got) > 0 || probe.Which(err) != want {
		t.Errorf("Reach of %d nodes, %d edges, from %v: %v, %v, want %v", n, len(list), from, got, err, want)
	}
}

// line are the edges of one way over all nodes, from the first of them on.
func line(nodes ...int) edges {
	var list edges
	for at := range len(nodes) - 1 {
		list = append(list, [2]int{nodes[at], nodes[at+1]})
	}
	return list
}

// ring are the edges of a line, and one back to where it begins.
func ring(nodes ...int) edges {
	return append(line(nodes...), [2]int{nodes[len(nodes)-1], nodes[0]})
}

// alone are the parts of one node each.
func alone(n int) [][]int {
	list := make([][]int, n)
	for k := range list {
		list[k] = []int{k}
	}
	return list
}

// downFrom are the numbers from n on down to 0.
func downFrom(n int) []int {
	list := probe.UpTo(n + 1)
	slices.Reverse(list)
	return list
}

// Errors

func TestErrLong(t *testing.T) {
	many := make(edges, graph.MaxEdges+1)
	wrong := slices.Repeat(edges{{-1, 7}}, graph.MaxEdges+1)
	for _, n := range []int{257, 258, 1 << 16, 1 << 32, math.MaxInt} {
		for _, list := range []edges{nil, {{0, 1}}, {{-1, 0}}, {{0, n}}, many, wrong} {
			checkError(t, n, list, api.ErrLong)
		}
	}
	for _, n := range []int{0, 1, 2, 256, -1, math.MinInt} {
		checkError(t, n, many, api.ErrLong)
		checkError(t, n, wrong, api.ErrLong)
		checkError(t, n, append(many, many...), api.ErrLong)
	}
	if graph.MaxNodes != 256 || graph.MaxEdges != 4096 {
		t.Errorf("the bounds: %d, %d", graph.MaxNodes, graph.MaxEdges)
	}
}

func TestErrArg(t *testing.T) {
	for _, n := range []int{-1, -2, -256, -257, -1 << 32, math.MinInt} {
		for _, list := range []edges{nil, {}, {{0, 0}}, {{-1, -2}}, {{n, n}}} {
			checkError(t, n, list, api.ErrArg)
		}
	}
	for _, n := range []int{0, 1, 2, 5, 256} {
		for _, node := range []int{-1, -2, n, n + 1, 256, 257, 1 << 32, -1 << 32, math.MinInt, math.MaxInt} {
			checkError(t, n, edges{{node, 0}}, api.ErrArg)
			checkError(t, n, edges{{0, node}}, api.ErrArg)
			checkError(t, n, edges{{node, node}}, api.ErrArg)
		}
	}
}

// TestErrArgOfOneEdge: a number that is no node's is found in every edge, on both sides, and whatever rounds there are.
func TestErrArgOfOneEdge(t *testing.T) {
	right := edges{{0, 1}, {1, 2}, {2, 0}, {1, 1}, {0, 1}}
	for at := range right {
		for side := range 2 {
			for _, node := range []int{-1, 3, math.MaxInt} {
				wrong := slices.Clone(right)
				wrong[at][side] = node
				checkError(t, 3, wrong, api.ErrArg)
			}
		}
	}
	most := make(edges, graph.MaxEdges)
	most[graph.MaxEdges-1] = [2]int{0, 256}
	checkError(t, 256, most, api.ErrArg)
}

func TestReachFromNoNode(t *testing.T) {
	for _, n := range []int{0, 1, 2, 3, 256} {
		for _, node := range []int{-1, n, n + 1, 256, 1 << 32, math.MinInt, math.MaxInt} {
			checkReachError(t, n, nil, []int{node}, api.ErrArg)
			if n > 1 {
				list := edges{{0, 1}, {1, 0}}
				checkReachError(t, n, list, []int{node, 0}, api.ErrArg)
				checkReachError(t, n, list, []int{0, node}, api.ErrArg)
				checkReachError(t, n, list, []int{0, 1, node, 0}, api.ErrArg)
			}
		}
	}
}

// TestMostThatThereMayBe: 256 nodes and 4096 edges are none too many, be it one edge over and over again.
func TestMostThatThereMayBe(t *testing.T) {
	one := slices.Repeat(edges{{255, 0}}, graph.MaxEdges)
	checkParts(t, 256, one, alone(256)...)
	checkLevels(t, 256, one, append(make([]int, 255), 1)...)
	checkOrder(t, 256, one, append(probe.UpTo(256)[1:], 0)...)
	checkReach(t, 256, one, []int{255}, 0, 255)
	checkReach(t, 256, one, []int{0}, 0)
}

// P12.1

func TestParts(t *testing.T) {
	cases := []struct {
		n    int
		list edges
		want [][]int
	}{
		{0, nil, nil},
		{0, edges{}, nil},
		{1, nil, [][]int{{0}}},
		{1, edges{{0, 0}}, [][]int{{0}}},
		{3, edges{{0, 1}, {1, 2}}, alone(3)},
		{3, edges{{2, 1}, {1, 0}}, alone(3)},
		{3, edges{{2, 0}, {0, 2}}, [][]int{{0, 2}, {1}}},
		{4, edges{{3, 1}, {1, 3}, {2, 0}, {0, 2}}, [][]int{{0, 2}, {1, 3}}},
		{4, edges{{3, 0}, {0, 3}, {2, 1}, {1, 2}, {0, 1}}, [][]int{{0, 3}, {1, 2}}},
		{5, edges{{4, 2}, {2, 0}, {0, 4}, {1, 3}}, [][]int{{0, 2, 4}, {1}, {3}}},
		{5, slices.Concat(ring(0, 4), ring(4, 2), ring(2, 3)), [][]int{{0, 2, 3, 4}, {1}}},
		{6, slices.Concat(ring(5, 3, 1), ring(4, 2, 0), edges{{1, 4}}), [][]int{{0, 2, 4}, {1, 3, 5}}},
		{6, slices.Concat(ring(5, 3, 1), ring(4, 2, 0), edges{{1, 4}, {0, 3}}), [][]int{probe.UpTo(6)}},
	}
	for _, c := range cases {
		checkParts(t, c.n, c.list, c.want...)
	}
}

// P12.2

func TestLevels(t *testing.T) {
	cases := []struct {
		n    int
		list edges
		want []int
	}{
		{0, nil, nil},
		{1, nil, []int{0}},
		{3, nil, []int{0, 0, 0}},
		{2, edges{{0, 1}}, []int{1, 0}},
		{2, edges{{1, 0}}, []int{0, 1}},
		{4, line(0, 1, 2, 3), []int{3, 2, 1, 0}},
		{4, line(2, 0, 3, 1), []int{2, 0, 3, 1}},
		{4, edges{{0, 3}, {0, 1}, {1, 2}, {2, 3}}, []int{3, 2, 1, 0}},
		{5, edges{{4, 0}, {4, 1}, {1, 2}, {0, 3}, {3, 2}}, []int{2, 1, 0, 1, 3}},
	}
	for _, c := range cases {
		checkLevels(t, c.n, c.list, c.want...)
	}
}

func TestRounds(t *testing.T) {
	cases := []struct {
		n    int
		list edges
		want []int
	}{
		{1, edges{{0, 0}}, []int{0}},
		{3, edges{{2, 2}}, []int{2}},
		{3, edges{{2, 2}, {1, 1}}, []int{1}},
		{3, ring(2, 1, 0), []int{0, 2, 1}},
		{3, append(ring(0, 1), [2]int{2, 2}), []int{2}},
		{4, ring(3, 1), []int{1, 3}},
		// Fewer nodes are ahead of lesser ones.
		{5, append(ring(0, 1, 2), ring(3, 4)...), []int{3, 4}},
		{6, append(ring(0, 1, 2, 3), ring(2, 3, 5)...), []int{2, 3, 5}},
		// Of as many nodes, the first place at which two lists differ tells.
		{6, slices.Concat(ring(0, 5, 1), ring(0, 2, 4)), []int{0, 2, 4}},
		{6, slices.Concat(ring(0, 2, 4), ring(0, 2, 3)), []int{0, 2, 3}},
		{6, slices.Concat(ring(1, 2, 3), ring(0, 4, 5)), []int{0, 4, 5}},
		{6, slices.Concat(ring(5, 0), ring(1, 2)), []int{0, 5}},
		// The second node tells, though the lesser third one stands behind the greater second one.
		{6, edges{{0, 3}, {0, 4}, {3, 5}, {4, 1}, {5, 0}, {1, 0}}, []int{0, 3, 5}},
		// Two ways of one length lead to the last node.
		{5, edges{{0, 2}, {0, 1}, {2, 4}, {1, 4}, {4, 0}}, []int{0, 1, 4}},
		// A short way from the least node leads to where there is no short way back.
		{5, edges{{0, 1}, {1, 2}, {2, 3}, {3, 4}, {4, 0}, {0, 3}, {4, 3}}, []int{3, 4}},
		// The least node leads to a round and isn't on one.
		{4, append(ring(1, 3, 2), [2]int{0, 1}), []int{1, 3, 2}},
		{4, append(ring(1, 3, 2), [2]int{1, 0}), []int{1, 3, 2}},
	}
	for _, c := range cases {
		checkRound(t, c.n, c.list, c.want...)
	}
}

// P12.3

func TestOrder(t *testing.T) {
	cases := []struct {
		n    int
		list edges
		want []int
	}{
		{0, nil, nil},
		{1, nil, []int{0}},
		{4, nil, probe.UpTo(4)},
		{4, line(0, 1, 2, 3), probe.UpTo(4)},
		{4, line(3, 2, 1, 0), downFrom(3)},
		{3, edges{{2, 0}}, []int{1, 2, 0}},
		{4, edges{{3, 0}, {2, 0}}, []int{1, 2, 3, 0}},
		{4, edges{{2, 0}, {3, 1}}, []int{2, 0, 3, 1}},
		{5, edges{{4, 0}, {0, 1}, {2, 3}}, []int{2, 3, 4, 0, 1}},
		{5, edges{{1, 0}, {3, 0}, {0, 2}, {0, 4}}, []int{1, 3, 0, 2, 4}},
	}
	for _, c := range cases {
		checkOrder(t, c.n, c.list, c.want...)
	}
	for _, list := range []edges{{{0, 0}}, {{3, 3}}, ring(0, 3), ring(1, 2, 3), append(ring(2, 3), [2]int{0, 1}), append(ring(0, 1), [2]int{1, 2}, [2]int{2, 3})} {
		checkNoOrder(t, 4, list)
	}
}

// P12.4

func TestReach(t *testing.T) {
	list := edges{{0, 1}, {1, 2}, {2, 1}, {5, 0}, {4, 4}, {3, 6}}
	cases := []struct{ from, want []int }{
		{nil, nil},
		{[]int{}, nil},
		{[]int{0}, []int{0, 1, 2}},
		{[]int{1}, []int{1, 2}},
		{[]int{2}, []int{1, 2}},
		{[]int{3}, []int{3, 6}},
		{[]int{4}, []int{4}},
		{[]int{5}, []int{0, 1, 2, 5}},
		{[]int{6}, []int{6}},
		{[]int{6, 3}, []int{3, 6}},
		{[]int{6, 2, 4}, []int{1, 2, 4, 6}},
		{[]int{4, 4, 4}, []int{4}},
		{[]int{2, 0, 2, 0}, []int{0, 1, 2}},
		{[]int{6, 5, 4, 3, 2, 1, 0}, probe.UpTo(7)},
	}
	for _, c := range cases {
		checkReach(t, 7, list, c.from, c.want...)
	}
	checkReach(t, 0, nil, nil)
	checkReach(t, 256, nil, slices.Repeat(probe.UpTo(256), 400), probe.UpTo(256)...)
}

// All four against the chapter's words

// checkSmall holds all answers of a graph of few nodes against what is written out.
func checkSmall(t *testing.T, m model) {
	t.Helper()
	checkParts(t, m.n, m.edges, m.parts()...)
	if round := m.round(); len(round) > 0 {
		checkRound(t, m.n, m.edges, round...)
	} else {
		levels, _ := m.levels()
		checkLevels(t, m.n, m.edges, levels...)
	}
	if order, ok := m.order(); ok {
		checkOrder(t, m.n, m.edges, order...)
	} else {
		checkNoOrder(t, m.n, m.edges)
	}
	for bits := range 1 << m.n {
		from := slices.DeleteFunc(downFrom(m.n-1), func(node int) bool { return bits>>node&1 == 0 })
		checkReach(t, m.n, m.edges, from, m.reach(from...)...)
	}
	if t.Failed() {
		t.FailNow()
	}
}

func TestSmallGraphs(t *testing.T) {
	for _, m := range slices.Concat(smallGraphs(), mixedGraphs()) {
		checkSmall(t, m)
	}
}

// TestGraphsOfFourNodes: the parts and the rounds of all of them.
func TestGraphsOfFourNodes(t *testing.T) {
	rounds := 0
	for _, m := range allOf(4) {
		round := m.round()
		if len(round) == 0 {
			checkSmall(t, m)
			continue
		}
		rounds++
		checkParts(t, m.n, m.edges, m.parts()...)
		checkRound(t, m.n, m.edges, round...)
		checkNoOrder(t, m.n, m.edges)
		if t.Failed() {
			t.FailNow()
		}
	}
	// There are 543 graphs of four nodes without rounds.
	if rounds != 1<<16-543 {
		t.Errorf("%d graphs have rounds", rounds)
	}
}

func TestGreatGraphs(t *testing.T) {
	var numbers probe.Numbers
	flat := 0
	for _, m := range greatGraphs() {
		checkParts(t, m.n, m.edges, m.parts()...)
		order, ok := m.orderByPlaces()
		if levels, none := m.levels(); ok && none {
			flat++
			checkOrder(t, m.n, m.edges, order...)
			checkLevels(t, m.n, m.edges, levels...)
		} else {
			checkNoOrder(t, m.n, m.edges)
			checkRound(t, m.n, m.edges, m.roundByLengths()...)
		}
		for size := range 4 {
			from := numbers.Order(m.n)[:size]
			checkReach(t, m.n, m.edges, from, m.reach(from...)...)
		}
		if t.Failed() {
			t.FailNow()
		}
	}
	if all := len(greatGraphs()); flat < all/2 || flat > all-20 {
		t.Errorf("%d of %d great graphs have no round", flat, all)
	}
}

// TestModels: what is worked out for great graphs is what is written out for small ones.
func TestModels(t *testing.T) {
	for _, m := range slices.Concat(smallGraphs(), mixedGraphs()) {
		order, ok := m.order()
		byPlaces, can := m.orderByPlaces()
		if round := m.round(); !slices.Equal(round, m.roundByLengths()) || !slices.Equal(order, byPlaces) || ok != can || ok != (len(round) == 0) {
			t.Fatalf("%d nodes, %v: %v and %v, %v and %v", m.n, m.edges, round, m.roundByLengths(), order, byPlaces)
		}
	}
}

// Many nodes, many ways

func TestLongWays(t *testing.T) {
	up, down := line(probe.UpTo(256)...), line(downFrom(255)...)
	checkLevels(t, 256, up, downFrom(255)...)
	checkLevels(t, 256, down, probe.UpTo(256)...)
	checkOrder(t, 256, up, probe.UpTo(256)...)
	checkOrder(t, 256, down, downFrom(255)...)
	checkParts(t, 256, up, alone(256)...)
	checkReach(t, 256, up, []int{0}, probe.UpTo(256)...)
	checkReach(t, 256, up, []int{200}, probe.UpTo(256)[200:]...)
	checkRound(t, 256, ring(probe.UpTo(256)...), probe.UpTo(256)...)
	checkRound(t, 256, ring(downFrom(255)...), append([]int{0}, downFrom(255)[:255]...)...)
	checkParts(t, 256, ring(downFrom(255)...), probe.UpTo(256))
	checkNoOrder(t, 256, ring(probe.UpTo(256)...))
	checkReach(t, 256, ring(probe.UpTo(256)...), []int{200}, probe.UpTo(256)...)
}

// layers are 16 rows of 16 nodes, the node k of the row r being k times 16 and r, with an edge from each node to each of the next row.
func layers(rows int) edges {
	var list edges
	for r := range rows {
		for k := range 16 {
			for next := range 16 {
				list = append(list, [2]int{16*k + r, 16*next + (r+1)%16})
			}
		}
	}
	return list
}

// TestManyWays: more ways and rounds than could be gone over one by one.
func TestManyWays(t *testing.T) {
	levels := make([]int, 256)
	for node := range levels {
		levels[node] = 15 - node%16
	}
	checkLevels(t, 256, layers(15), levels...)
	checkParts(t, 256, layers(15), alone(256)...)
	checkRound(t, 256, layers(16), probe.UpTo(16)...)
	checkParts(t, 256, layers(16), probe.UpTo(256))
	checkNoOrder(t, 256, layers(16))
	checkReach(t, 256, layers(16), []int{77}, probe.UpTo(256)...)
	turned := layers(16)
	for n, e := range turned {
		turned[n] = [2]int{255 - e[0], 255 - e[1]}
	}
	// The rows go down now, from 15 of the node 0 on to the least of each.
	checkRound(t, 256, turned, append([]int{0}, downFrom(15)[:15]...)...)
}

// TestAllEdges: 64 nodes with an edge from each to each, and without those to themselves.
func TestAllEdges(t *testing.T) {
	var all edges
	for a := range 64 {
		for b := range 64 {
			all = append(all, [2]int{a, b})
		}
	}
	checkRound(t, 64, all, 0)
	checkParts(t, 64, all, probe.UpTo(64))
	others := slices.DeleteFunc(slices.Clone(all), func(e [2]int) bool { return e[0] == e[1] })
	checkRound(t, 64, others, 0, 1)
	up := slices.DeleteFunc(all, func(e [2]int) bool { return e[0] >= e[1] })
	checkLevels(t, 64, up, downFrom(63)...)
	checkOrder(t, 64, up, probe.UpTo(64)...)
}
