package graph_test

import (
	"slices"

	"dovetail/probe"
)

// edges are those of a graph.
type edges = [][2]int

// model is a graph as the chapter's words have it: a table that tells of each two nodes whether an edge leads from the first to the second.
type model struct {
	n     int
	edges edges
	edge  [][]bool
}

func modelOf(n int, list edges) model {
	m := model{n: n, edges: list, edge: table(n)}
	for _, e := range list {
		m.edge[e[0]][e[1]] = true
	}
	return m
}

func table(n int) [][]bool {
	rows := make([][]bool, n)
	for a := range rows {
		rows[a] = make([]bool, n)
	}
	return rows
}

// ways tells of each two nodes whether a way leads from the first to the second: over ever more nodes.
func (m model) ways() [][]bool {
	leads := table(m.n)
	for a := range m.n {
		copy(leads[a], m.edge[a])
		leads[a][a] = true
	}
	for over := range m.n {
		for a := range m.n {
			for b := range m.n {
				leads[a][b] = leads[a][b] || leads[a][over] && leads[over][b]
			}
		}
	}
	return leads
}

// parts are, of each node that no lesser one shares a part with, all that share one with it.
func (m model) parts() [][]int {
	leads := m.ways()
	var list [][]int
	for a := range m.n {
		var part []int
		for b := range m.n {
			if leads[a][b] && leads[b][a] {
				part = append(part, b)
			}
		}
		if part[0] == a {
			list = append(list, part)
		}
	}
	return list
}

// reach are the nodes to which ways lead.
func (m model) reach(from ...int) []int {
	leads := m.ways()
	var list []int
	for b := range m.n {
		if slices.ContainsFunc(from, func(a int) bool { return leads[a][b] }) {
			list = append(list, b)
		}
	}
	return list
}

// rounds are all of them, each way from a node over greater ones being written out.
func (m model) rounds() [][]int {
	var list [][]int
	var walk func(way []int)
	walk = func(way []int) {
		for next := way[0]; next < m.n; next++ {
			switch {
			case !m.edge[way[len(way)-1]][next]:
			case next == way[0]:
				list = append(list, way)
			case !slices.Contains(way, next):
				walk(append(slices.Clone(way), next))
			}
		}
	}
	for least := range m.n {
		walk([]int{least})
	}
	return list
}

func fewerNodes(round, other []int) int {
	if len(round) != len(other) {
		return len(round) - len(other)
	}
	return slices.Compare(round, other)
}

// round is the one that is to be told, or none.
func (m model) round() []int {
	if list := m.rounds(); len(list) > 0 {
		return slices.MinFunc(list, fewerNodes)
	}
	return nil
}

// far is a length above those of all shortest ways.
const far = 1 << 20

// lengths are those of the shortest ways of length 1 or more from each node to each.
func (m model) lengths() [][]int {
	rows := make([][]int, m.n)
	for a := range rows {
		rows[a] = slices.Repeat([]int{far}, m.n)
		for b := range m.n {
			if m.edge[a][b] {
				rows[a][b] = 1
			}
		}
	}
	for over := range m.n {
		for a := range m.n {
			for b := range m.n {
				rows[a][b] = min(rows[a][b], rows[a][over]+rows[over][b])
			}
		}
	}
	return rows
}

// roundByLengths is the same as round, for graphs with more rounds than can be written out: node by node the least from which the way back is as short as it has to be.
func (m model) roundByLengths() []int {
	rows := m.lengths()
	size := far
	for a := range m.n {
		size = min(size, rows[a][a])
	}
	var round []int
	for a := 0; a < m.n && size < far && len(round) == 0; a++ {
		if rows[a][a] == size {
			round = append(round, a)
		}
	}
	for len(round) > 0 && len(round) < size {
		last, left := round[len(round)-1], size-len(round)
		for next := range m.n {
			if m.edge[last][next] && rows[next][round[0]] == left {
				round = append(round, next)
				break
			}
		}
	}
	return round
}

// levels are the greatest lengths of which there are ways, every length below n being tried; and whether there are none of the length n, which would meet a node twice.
func (m model) levels() ([]int, bool) {
	levels := make([]int, m.n)
	can := slices.Repeat([]bool{true}, m.n)
	for length := 1; length <= m.n; length++ {
		longer := make([]bool, m.n)
		for _, e := range m.edges {
			longer[e[0]] = longer[e[0]] || can[e[1]]
		}
		can = longer
		for a, ok := range can {
			if ok {
				levels[a] = length
			}
		}
	}
	return levels, !slices.Contains(can, true)
}

// fits tells whether each edge leads from a node to a later one.
func (m model) fits(order []int) bool {
	for _, e := range m.edges {
		if slices.Index(order, e[0]) >= slices.Index(order, e[1]) {
			return false
		}
	}
	return true
}

// order is the first of all orders, from the least list on, that fits; and whether there is one.
func (m model) order() ([]int, bool) {
	for _, order := range orders(m.n) {
		if m.fits(order) {
			return order, true
		}
	}
	return nil, false
}

// orders are all orders of the nodes, from the least list on.
func orders(n int) [][]int {
	list := [][]int{nil}
	for range n {
		var longer [][]int
		for _, order := range list {
			for node := range n {
				if !slices.Contains(order, node) {
					longer = append(longer, append(slices.Clone(order), node))
				}
			}
		}
		list = longer
	}
	return list
}

// orderByPlaces is the same as order, for graphs of many nodes: at each place all nodes are looked at.
func (m model) orderByPlaces() ([]int, bool) {
	var order []int
	placed := make([]bool, m.n)
	for range m.n {
		waits := slices.Clone(placed)
		for _, e := range m.edges {
			waits[e[1]] = waits[e[1]] || !placed[e[0]]
		}
		node := slices.Index(waits, false)
		if node < 0 {
			return nil, false
		}
		order = append(order, node)
		placed[node] = true
	}
	return order, true
}

// Graphs

// allOf are all graphs of n nodes without edges that are there twice.
func allOf(n int) []model {
	list := make([]model, 1<<(n*n))
	for bits := range list {
		var some edges
		for k := range n * n {
			if bits>>k&1 == 1 {
				some = append(some, [2]int{k / n, k % n})
			}
		}
		list[bits] = modelOf(n, some)
	}
	return list
}

// smallGraphs are all graphs of up to three nodes.
func smallGraphs() []model {
	return slices.Concat(allOf(0), allOf(1), allOf(2), allOf(3))
}

// mixed is a graph that looks mixed; with upwards, one without rounds, whose edges lead up and down by the nodes' numbers nonetheless.
func mixed(numbers *probe.Numbers, n, size int, upwards bool) model {
	name := numbers.Order(n)
	list := make(edges, 0, size)
	for range size {
		a, b := numbers.Below(n), numbers.Below(n)
		if upwards && a == b {
			continue
		}
		if upwards && a > b {
			a, b = b, a
		}
		list = append(list, [2]int{name[a], name[b]})
	}
	return modelOf(n, list)
}

// mixedGraphs are of few nodes, with few edges and with many, each second one without rounds.
func mixedGraphs() []model {
	var numbers probe.Numbers
	var list []model
	for k := range 1200 {
		n := 2 + k%5
		list = append(list, mixed(&numbers, n, numbers.Below(n*2+1), k%2 == 0))
	}
	return list
}

// greatGraphs are of up to as many nodes and edges as there may be.
func greatGraphs() []model {
	var numbers probe.Numbers
	var list []model
	for k := range 60 {
		n := 20 + numbers.Below(100)
		size := []int{n / 2, n - 5, n + n/8, 2 * n, 8 * n}[k/2%5]
		list = append(list, mixed(&numbers, n, size, k%2 == 0))
	}
	for _, size := range []int{200, 256, 300, 4096} {
		list = append(list, mixed(&numbers, 256, size, false), mixed(&numbers, 256, size, true))
	}
	return list
}
