package precfun_test

import (
	"cmp"
	"slices"
	"strings"
	"testing"

	"dovetail/api"
	"dovetail/matrix"
	"dovetail/probe"
)

// edges are those of a graph.
type edges = [][2]int

// drawing is a matrix as it is drawn: for each first terminal a row, and in it for each second one the relations, < = >, or . for none. The last row and the last column are the end's.
type drawing [][]string

// drawn is the drawing of a text, whose rows are parted by ;.
func drawn(text string) drawing {
	var d drawing
	for row := range strings.SplitSeq(text, ";") {
		d = append(d, strings.Fields(row))
	}
	return d
}

func (d drawing) String() string {
	var rows []string
	for _, row := range d {
		rows = append(rows, strings.Join(row, " "))
	}
	return strings.Join(rows, "; ")
}

// The nonterminals of a drawing's grammar: the axiom, one without rules, one that nothing leads to; and behind them one for each terminal, with that terminal as its only rule.
const (
	axiom = -1 - iota
	empty
	aside
	firstOwn
)

// perRule is how many relations the right side of a rule holds, each of two symbols with two nonterminals behind it that hold it apart from the next one.
const perRule = api.MaxRight / 4

// grammar is one of which just the drawn relations hold. It is of at most 28 terminals.
func (d drawing) grammar() api.Grammar {
	end := len(d) - 1
	g := api.Grammar{Terms: probe.Names("t", end), Nonterms: slices.Concat([]string{"axiom", "empty", "aside"}, probe.Names("own", end))}
	for a := range end {
		g.Rules = append(g.Rules, probe.Rule(-1-(firstOwn-a), a))
	}
	var sides [][]int
	for a, row := range d {
		for b, cell := range row {
			for _, sign := range cell {
				switch {
				case sign == '<' && a == end:
					g.Rules = append(g.Rules, probe.Rule(0, b, empty, empty))
				case sign == '>' && b == end:
					g.Rules = append(g.Rules, probe.Rule(0, empty, empty, a))
				case sign == '<':
					sides = append(sides, []int{a, firstOwn - b, empty, empty})
				case sign == '=':
					sides = append(sides, []int{a, b, empty, empty})
				case sign == '>':
					sides = append(sides, []int{firstOwn - a, b, empty, empty})
				}
			}
		}
	}
	for some := range slices.Chunk(sides, perRule) {
		g.Rules = append(g.Rules, probe.Rule(-1-aside, slices.Concat(some...)...))
	}
	return g
}

// mustBe is the matrix of a grammar that may be.
func mustBe(t *testing.T, g api.Grammar) *matrix.Matrix {
	t.Helper()
	m, err := matrix.Of(g)
	if err != nil {
		t.Fatalf("%v: %v", g, err)
	}
	return m
}

// mustDraw is the matrix of a drawing.
func mustDraw(t *testing.T, d drawing) *matrix.Matrix {
	t.Helper()
	m := mustBe(t, d.grammar())
	if got := drawingOf(m).String(); got != d.String() {
		t.Fatalf("the grammar of %s has the matrix %s", d, got)
	}
	return m
}

func drawingOf(m *matrix.Matrix) drawing {
	var d drawing
	for a := range m.Terms() {
		d = append(d, make([]string, m.Terms()))
		for b := range m.Terms() {
			for relation, sign := range []string{".", "<", "=", ">"} {
				if m.Holds(a, b, relation) {
					d[a][b] += sign
				}
			}
		}
	}
	return d
}

// What the chapter's section 'Words' says

// asks tells what a relation asks of an f and a g: how they compare, as cmp.Compare tells it.
func asks(relation int) int { return relation - api.Equal }

// eachHolding goes over all relations that hold, as nodes of which the first is an f and the second a g.
func eachHolding(m *matrix.Matrix, see func(f, g, relation int)) {
	for a := range m.Terms() {
		for b := range m.Terms() {
			for relation := api.Yields; relation <= api.Takes; relation++ {
				if m.Holds(a, b, relation) {
					see(a, m.Terms()+b, relation)
				}
			}
		}
	}
}

// classesOf are the classes, as what follows from Equal by ways over ever more nodes.
func classesOf(m *matrix.Matrix) []int {
	size := 2 * m.Terms()
	one := make([][]bool, size)
	for node := range one {
		one[node] = make([]bool, size)
		one[node][node] = true
	}
	eachHolding(m, func(f, g, relation int) {
		if relation == api.Equal {
			one[f][g], one[g][f] = true, true
		}
	})
	for over := range size {
		for x := range size {
			for y := range size {
				one[x][y] = one[x][y] || one[x][over] && one[over][y]
			}
		}
	}
	classes := make([]int, size)
	var leasts []int
	for node := range size {
		least := slices.Index(one[node], true)
		if least == node {
			leasts = append(leasts, node)
		}
		classes[node] = slices.Index(leasts, least)
	}
	return classes
}

// edgesOf are the edges between classes, rising, each once.
func edgesOf(m *matrix.Matrix, classes []int) edges {
	var list edges
	eachHolding(m, func(f, g, relation int) {
		switch relation {
		case api.Takes:
			list = append(list, [2]int{classes[f], classes[g]})
		case api.Yields:
			list = append(list, [2]int{classes[g], classes[f]})
		}
	})
	slices.SortFunc(list, func(a, b [2]int) int { return cmp.Or(a[0]-b[0], a[1]-b[1]) })
	return slices.Compact(list)
}

// leastFit are the least numbers, 0 or above, that fit, and whether there are any: from 0 on each one that is too low is raised to where it has to be. No least one is above the number of nodes, since below each number there is a node of every lesser one.
func leastFit(m *matrix.Matrix) (f, g []int, ok bool) {
	numbers := make([]int, 2*m.Terms())
	for grown := true; grown; {
		grown = false
		raise := func(node, to int) {
			if numbers[node] < to {
				numbers[node] = to
				grown = true
			}
		}
		eachHolding(m, func(f, g, relation int) {
			if relation != api.Yields {
				raise(f, numbers[g]+asks(relation))
			}
			if relation != api.Takes {
				raise(g, numbers[f]-asks(relation))
			}
		})
		if slices.ContainsFunc(numbers, func(number int) bool { return number > len(numbers) }) {
			return nil, nil, false
		}
	}
	return numbers[:m.Terms()], numbers[m.Terms():], true
}

// fit tells whether numbers fit.
func fit(m *matrix.Matrix, f, g []int) bool {
	if len(f) != m.Terms() || len(g) != m.Terms() {
		return false
	}
	ok := true
	eachHolding(m, func(a, b, relation int) {
		ok = ok && cmp.Compare(f[a], g[b-m.Terms()]) == asks(relation)
	})
	return ok
}

// cycleOf is the cycle with the fewest classes, of such the least list, or none; all ways from a class over greater ones are written out.
func cycleOf(_ int, list edges) []int {
	var best []int
	var walk func(way []int)
	walk = func(way []int) {
		for _, e := range list {
			switch {
			case e[0] != way[len(way)-1] || e[1] < way[0]:
			case e[1] == way[0]:
				if best == nil || cmp.Or(len(way)-len(best), slices.Compare(way, best)) < 0 {
					best = slices.Clone(way)
				}
			case !slices.Contains(way, e[1]):
				walk(append(slices.Clone(way), e[1]))
			}
		}
	}
	for _, e := range list {
		walk([]int{e[0]})
	}
	return best
}

// Drawings

// signs are all sets of relations; the first four are of one at most.
func signs() []string { return []string{".", "<", "=", ">", "<=", "<>", "=>", "<=>"} }

// filled is a drawing of so many terminals, the end counted, with the sign in each cell that a function chooses among so many: of the end's cells always among two, since it yields, and is taken, or not, and nothing else.
func filled(n int, choose func(a, b, among int) int, among int) drawing {
	d := make(drawing, n)
	for a := range d {
		d[a] = make([]string, n)
		for b := range d[a] {
			switch end := n - 1; {
			case a == end && b == end:
				d[a][b] = "."
			case a == end:
				d[a][b] = []string{".", "<"}[choose(a, b, 2)]
			case b == end:
				d[a][b] = []string{".", ">"}[choose(a, b, 2)]
			default:
				d[a][b] = signs()[choose(a, b, among)]
			}
		}
	}
	return d
}

// allOf are all drawings of so many terminals, the end counted, of those first signs.
func allOf(n, among int) []drawing {
	size := 1
	filled(n, func(_, _, among int) int { size *= among; return 0 }, among)
	var list []drawing
	for number := range size {
		list = append(list, filled(n, func(_, _, among int) int {
			choice := number % among
			number /= among
			return choice
		}, among))
	}
	return list
}

// mixed is a drawing that looks mixed, of which as many cells as said, of ten, hold a relation. With ranks, which are two numbers for each terminal, relations are those that they say; without any they are mixed, too.
func mixed(numbers *probe.Numbers, n, full, among int, ranks []int) drawing {
	return filled(n, func(a, b, among int) int {
		switch {
		case numbers.Below(10) >= full:
			return api.None
		case among == 2:
			return 1
		case ranks != nil:
			return api.Equal + cmp.Compare(ranks[a], ranks[n+b])
		}
		return 1 + numbers.Below(among-1)
	}, among)
}

// ranked are numbers that look mixed for all nodes of n terminals: 0 for the end, above it for all others.
func ranked(numbers *probe.Numbers, n int) []int {
	ranks := make([]int, 2*n)
	bound := 1 + numbers.Below(2*n)
	for node := range ranks {
		if node%n < n-1 {
			ranks[node] = 1 + numbers.Below(bound)
		}
	}
	return ranks
}

// mixedDrawings are of up to five terminals and the end, without clashes; one of four, and some of the others, have functions.
func mixedDrawings() []drawing {
	var numbers probe.Numbers
	var list []drawing
	for k := range 4000 {
		n := 3 + k%4
		var ranks []int
		if k/4%4 == 0 {
			ranks = ranked(&numbers, n)
		}
		list = append(list, mixed(&numbers, n, 1+numbers.Below(10), 4, ranks))
	}
	return list
}

// clashingDrawings may have clashes.
func clashingDrawings() []drawing {
	var numbers probe.Numbers
	var list []drawing
	for k := range 1500 {
		list = append(list, mixed(&numbers, 2+k%5, 1+numbers.Below(10), 8, nil))
	}
	return list
}

// greatDrawings are of up to 20 terminals and the end.
func greatDrawings() []drawing {
	var numbers probe.Numbers
	var list []drawing
	for k := range 120 {
		n := 8 + numbers.Below(14)
		var ranks []int
		if k%3 > 0 {
			ranks = ranked(&numbers, n)
		}
		list = append(list, mixed(&numbers, n, 1+numbers.Below(10), 4, ranks))
	}
	return list
}

// clearDrawings have no clash: all of up to two terminals and the end, and the mixed ones.
func clearDrawings() []drawing {
	return slices.Concat(allOf(1, 4), allOf(2, 4), allOf(3, 4), mixedDrawings())
}
