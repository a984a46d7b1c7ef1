package precfun_test

import (
	"slices"
	"testing"

	"dovetail/api"
	"dovetail/graph"
	"dovetail/matrix"
	"dovetail/precfun"
	"dovetail/probe"
)

// most is how many terminals a grammar has at most; the end is behind them.
const most = api.MaxSymbols - 1

// read is the matrix of a grammar's text.
func read(t *testing.T, text string) *matrix.Matrix {
	t.Helper()
	return mustBe(t, probe.Read(text))
}

func checkGraph(t *testing.T, m *matrix.Matrix, classes []int, want ...[2]int) {
	t.Helper()
	if got, list, err := precfun.Graph(m); err != nil || !slices.Equal(got, classes) || !slices.Equal(list, want) {
		t.Errorf("Graph of %s: %v, %v, %v, want %v, %v", drawingOf(m), got, list, err, classes, want)
	}
}

func sameFunctions(x, y precfun.Functions) bool {
	return slices.Equal(x.F, y.F) && slices.Equal(x.G, y.G) && slices.Equal(x.Classes, y.Classes) && slices.Equal(x.Cycle, y.Cycle)
}

func checkOf(t *testing.T, m *matrix.Matrix, want precfun.Functions) {
	t.Helper()
	if got, err := precfun.Of(m); err != nil || !sameFunctions(got, want) {
		t.Errorf("Of %s: %v, %v, want %v", drawingOf(m), got, err, want)
	}
}

// checkError wants an error of Graph and Of, and nothing beside it; with the pair, if there is to be one.
func checkError(t *testing.T, m *matrix.Matrix, want error, pair ...api.Pair) {
	t.Helper()
	check := func(call string, err error, zero bool) {
		t.Helper()
		var got []api.Pair
		if p, ok := probe.PairOf(err); ok {
			got = append(got, p)
		}
		if probe.Which(err) != want || !slices.Equal(got, pair) {
			t.Errorf("%s of %s: %v, %v, want %v, %v", call, drawingOf(m), err, got, want, pair)
		}
		if !zero {
			t.Errorf("%s of %s: an answer beside the error", call, drawingOf(m))
		}
	}
	classes, list, err := precfun.Graph(m)
	check("Graph", err, len(classes) == 0 && len(list) == 0)
	x, err := precfun.Of(m)
	check("Of", err, sameFunctions(x, precfun.Functions{}))
}

// P13.1

func TestGraph(t *testing.T) {
	cases := []struct {
		drawing string
		classes []int
		edges   edges
	}{
		{".", []int{0, 1}, nil},
		{". .; . .", []int{0, 1, 2, 3}, nil},
		{". >; < .", []int{0, 1, 2, 3}, edges{{0, 3}, {2, 1}}},
		{"< .; . .", []int{0, 1, 2, 3}, edges{{2, 0}}},
		{"> .; . .", []int{0, 1, 2, 3}, edges{{0, 2}}},
		{"= .; . .", []int{0, 1, 0, 2}, nil},
		{"= >; < .", []int{0, 1, 0, 2}, edges{{0, 1}, {0, 2}}},
		// An edge of many pairs is there once.
		{"= > .; = > .; . . .", []int{0, 0, 1, 0, 2, 3}, edges{{0, 2}}},
		{"= < .; = < .; . . .", []int{0, 0, 1, 0, 2, 3}, edges{{2, 0}}},
		{"= = .; > > .; . . .", []int{0, 1, 2, 0, 0, 3}, edges{{1, 0}}},
		{"= = .; < < .; . . .", []int{0, 1, 2, 0, 0, 3}, edges{{0, 1}}},
		{"= < .; > = .; . . .", []int{0, 1, 2, 0, 1, 3}, edges{{1, 0}}},
		// They rise by both classes, whichever relations they are of.
		{"< > >; > < >; < < .", []int{0, 1, 2, 3, 4, 5}, edges{{0, 4}, {0, 5}, {1, 3}, {1, 5}, {3, 0}, {3, 2}, {4, 1}, {4, 2}}},
		// There and back.
		{"= > .; > = .; . . .", []int{0, 1, 2, 0, 1, 3}, edges{{0, 1}, {1, 0}}},
		// From a class to itself.
		{"= = .; = > .; . . .", []int{0, 0, 1, 0, 0, 2}, edges{{0, 0}}},
		{"= = .; = < .; . . .", []int{0, 0, 1, 0, 0, 2}, edges{{0, 0}}},
		// What follows from Equal by more than one step, and classes that are joined late.
		{". = = .; = . . .; = . . .; . . . .", []int{0, 1, 1, 2, 1, 0, 0, 3}, nil},
		{". . = .; = . . .; = . = .; . . . .", []int{0, 0, 0, 1, 0, 2, 0, 3}, nil},
		{"= . . .; . = . .; = = = .; . . . .", []int{0, 0, 0, 1, 0, 0, 0, 2}, nil},
		{". . = .; . = . .; = . . .; . . . .", []int{0, 1, 2, 3, 2, 1, 0, 4}, nil},
	}
	for _, c := range cases {
		checkGraph(t, mustDraw(t, drawn(c.drawing)), c.classes, c.edges...)
	}
}

func TestGraphOfManyMatrices(t *testing.T) {
	loops, joined, great := 0, 0, 0
	for _, d := range slices.Concat(clearDrawings(), greatDrawings()) {
		m := mustDraw(t, d)
		classes := classesOf(m)
		list := edgesOf(m, classes)
		checkGraph(t, m, classes, list...)
		if slices.ContainsFunc(list, func(e [2]int) bool { return e[0] == e[1] }) {
			loops++
		}
		if slices.Max(classes) < len(classes)-1 {
			joined++
		}
		if len(list) > 100 {
			great++
		}
	}
	if loops < 300 || joined < 1000 || great < 20 {
		t.Errorf("only %d graphs have edges from a class to itself, %d classes of several nodes, %d many edges", loops, joined, great)
	}
}

// taking is a grammar of the most terminals, each of which takes all, and the end. Turned about, each yields to all, and takes the end.
func taking() api.Grammar {
	g := api.Grammar{Terms: probe.Names("t", most), Nonterms: []string{"S"}}
	for k := range most {
		g.Rules = append(g.Rules, probe.Rule(0, -1, k))
	}
	return g
}

// equals is a grammar of the most terminals, in which they stand side by side as in a row.
func equals(row []int) api.Grammar {
	g := api.Grammar{Terms: probe.Names("t", most), Nonterms: []string{"S"}}
	for len(row) > 1 {
		size := min(api.MaxRight, len(row))
		g.Rules = append(g.Rules, probe.Rule(0, row[:size]...))
		row = row[size-1:]
	}
	return g
}

// allEqual is a grammar in which each of the most terminals is equal to all: their number is a prime, so each step leads round over all of them.
func allEqual() api.Grammar {
	row := []int{0}
	at := 0
	for step := 1; step < most; step++ {
		for range most {
			if step == 1 {
				row = append(row, at)
			}
			at = (at + step) % most
			row = append(row, at)
		}
	}
	return equals(row)
}

// each is a list of one number for each of the most terminals, and of another for the end.
func each(number, end int) []int { return append(slices.Repeat([]int{number}, most), end) }

func TestTheMostEdges(t *testing.T) {
	const end, g = most, most + 1
	var list, turned edges
	for a := range most {
		for b := range most + 1 {
			list = append(list, [2]int{a, g + b})
		}
		turned = append(turned, [2]int{a, g + end})
	}
	for b := range most {
		list = append(list, [2]int{g + b, end})
		for a := range most + 1 {
			turned = append(turned, [2]int{g + b, a})
		}
	}
	if len(list) != 3599 || len(turned) != 3599 {
		t.Fatalf("%d and %d edges", len(list), len(turned))
	}
	m := mustBe(t, taking())
	checkGraph(t, m, probe.UpTo(120), list...)
	checkOf(t, m, precfun.Functions{F: each(2, 0), G: each(1, 0), Classes: probe.UpTo(120)})
	m = mustBe(t, probe.Turned(taking()))
	checkGraph(t, m, probe.UpTo(120), turned...)
	checkOf(t, m, precfun.Functions{F: each(1, 0), G: each(2, 0), Classes: probe.UpTo(120)})
}

func TestTheGreatestClasses(t *testing.T) {
	m := mustBe(t, allEqual())
	for k := range most * most {
		if !m.Holds(k/most, k%most, api.Equal) {
			t.Fatalf("%d and %d", k/most, k%most)
		}
	}
	classes := append(each(0, 1), each(0, 2)...)
	checkGraph(t, m, classes, [2]int{0, 1}, [2]int{0, 2})
	checkOf(t, m, precfun.Functions{F: each(1, 0), G: each(1, 0), Classes: classes})
	// With one less, the class is the same.
	less := allEqual()
	less.Rules = less.Rules[1:]
	checkGraph(t, mustBe(t, less), classes, [2]int{0, 1}, [2]int{0, 2})
}

// TestClassesOfARow: f of each terminal and g of the next one are of a class; the last one's f, the first one's g and the end's are alone.
func TestClassesOfARow(t *testing.T) {
	m := mustBe(t, equals(probe.UpTo(most)))
	classes := probe.UpTo(most + 1)
	classes = append(classes, most+1)
	classes = append(classes, probe.UpTo(most-1)...)
	classes = append(classes, most+2)
	got, list, err := precfun.Graph(m)
	if err != nil || !slices.Equal(got, classes) || !slices.Equal(list, edgesOf(m, classes)) {
		t.Errorf("Graph: %v, %v, %v, want %v", got, list, err, classes)
	}
}

func TestErrors(t *testing.T) {
	const y, e, k = api.Yields, api.Equal, api.Takes
	checkError(t, nil, api.ErrArg)
	cases := []struct {
		drawing string
		want    api.Pair
	}{
		{"<= .; . .", api.Pair{First: y, Second: e}},
		{"<> .; . .", api.Pair{First: y, Second: k}},
		{"=> .; . .", api.Pair{First: e, Second: k}},
		{"<=> >; < .", api.Pair{First: y, Second: e}},
		{". <> .; . . .; . . .", api.Pair{B: 1, First: y, Second: k}},
		{"< . >; => > .; . < .", api.Pair{A: 1, First: e, Second: k}},
		{"= < >; > <= .; < . .", api.Pair{A: 1, B: 1, First: y, Second: e}},
		// The first one by the first terminal, then by the second.
		{". => .; <= . .; . . .", api.Pair{B: 1, First: e, Second: k}},
		{". . => .; <= <> . .; . . . .; . . . .", api.Pair{B: 2, First: e, Second: k}},
		{". . . .; . <> <= .; => . . .; . . . .", api.Pair{A: 1, B: 1, First: y, Second: k}},
		// Ahead of a cycle.
		{"= = . .; = > . .; . . => .; . . . .", api.Pair{A: 2, B: 2, First: e, Second: k}},
	}
	for _, c := range cases {
		checkError(t, mustDraw(t, drawn(c.drawing)), api.ErrMatrix, c.want)
	}
	// The last pair that there is.
	g := api.Grammar{Terms: probe.Names("t", most), Nonterms: []string{"S"}, Rules: []api.Rule{probe.Rule(0, most-1, -1, most-1)}}
	checkError(t, mustBe(t, g), api.ErrMatrix, api.Pair{A: most - 1, B: most - 1, First: y, Second: e})
}

func TestErrorsOfManyMatrices(t *testing.T) {
	tried := 0
	for _, d := range clashingDrawings() {
		m := mustDraw(t, d)
		if clashes := m.Clashes(); len(clashes) > 0 {
			checkError(t, m, api.ErrMatrix, clashes[0])
			tried++
		}
	}
	if tried < 800 {
		t.Errorf("only %d have a clash", tried)
	}
}

// P13.2

func TestOf(t *testing.T) {
	cases := []struct {
		text string
		want precfun.Functions
	}{
		{"S :", precfun.Functions{F: []int{0}, G: []int{0}, Classes: []int{0, 1}}},
		{"S : a", precfun.Functions{F: []int{1, 0}, G: []int{1, 0}, Classes: []int{0, 1, 2, 3}}},
		{"S : a a", precfun.Functions{F: []int{1, 0}, G: []int{1, 0}, Classes: []int{0, 1, 0, 2}}},
		{"S : a S | b", precfun.Functions{F: []int{1, 1, 0}, G: []int{2, 2, 0}, Classes: probe.UpTo(6)}},
		{"S : S a | b", precfun.Functions{F: []int{2, 2, 0}, G: []int{1, 1, 0}, Classes: probe.UpTo(6)}},
		{"S : a S b | a b", precfun.Functions{F: []int{0, 1, 0}, G: []int{1, 0, 0}, Classes: []int{0, 1, 2, 3, 0, 4}}},
		// + * ( ) i, and the end.
		{"E : E + T | T; T : T * F | F; F : ( E ) | i", precfun.Functions{
			F:       []int{2, 4, 0, 4, 4, 0},
			G:       []int{1, 3, 5, 0, 5, 0},
			Classes: []int{0, 1, 2, 3, 4, 5, 6, 7, 8, 2, 9, 10},
		}},
		{"E : T ^ E | T; T : i", precfun.Functions{F: []int{1, 3, 0}, G: []int{2, 2, 0}, Classes: probe.UpTo(6)}},
	}
	for _, c := range cases {
		checkOf(t, read(t, c.text), c.want)
	}
}

func TestCycle(t *testing.T) {
	cases := []struct {
		drawing string
		classes []int
		cycle   []int
	}{
		{"= = .; = > .; . . .", []int{0, 0, 1, 0, 0, 2}, []int{0}},
		{"= > .; > = .; . . .", []int{0, 1, 2, 0, 1, 3}, []int{0, 1}},
		{"> < .; < > .; . . .", probe.UpTo(6), []int{0, 3, 1, 4}},
		{"< > .; > < .; . . .", probe.UpTo(6), []int{0, 4, 1, 3}},
		// The fewest classes, then the least list.
		{"> < . . .; < > . . .; . . = > .; . . > = .; . . . . .", []int{0, 1, 2, 3, 4, 5, 6, 2, 3, 7}, []int{2, 3}},
		{"= > . . .; > = . . .; . . = = .; . . = < .; . . . . .", []int{0, 1, 2, 2, 3, 0, 1, 2, 2, 4}, []int{2}},
		{"= > > .; > = > .; > > = .; . . . .", []int{0, 1, 2, 3, 0, 1, 2, 4}, []int{0, 1}},
		{"> < < .; < > > .; < > > .; . . . .", probe.UpTo(8), []int{0, 4, 1, 5}},
	}
	for _, c := range cases {
		checkOf(t, mustDraw(t, drawn(c.drawing)), precfun.Functions{Classes: c.classes, Cycle: c.cycle})
	}
}

// chain is a drawing of so many terminals and the end, of which f of the first is above its g, that above f of the second, and so on.
func chain(n int) drawing {
	return filled(n+1, func(a, b, among int) int {
		switch {
		case among == 2:
			return 0
		case a == b:
			return api.Takes
		case a == b+1:
			return api.Yields
		}
		return api.None
	}, 4)
}

func TestLongChains(t *testing.T) {
	for n := 1; n <= 28; n++ {
		f, g := make([]int, n+1), make([]int, n+1)
		for k := range n {
			f[k], g[k] = 2*(n-k)-1, 2*(n-k)-2
		}
		checkOf(t, mustDraw(t, chain(n)), precfun.Functions{F: f, G: g, Classes: probe.UpTo(2*n + 2)})
	}
}

// TestLongCycles: from the end of a chain an edge leads to its beginning.
func TestLongCycles(t *testing.T) {
	for n := 2; n <= 28; n++ {
		d := chain(n)
		d[0][n-1] = "<"
		var cycle []int
		for k := range n {
			cycle = append(cycle, k, n+1+k)
		}
		checkOf(t, mustDraw(t, d), precfun.Functions{Classes: probe.UpTo(2*n + 2), Cycle: cycle})
	}
}

// TestLongCyclesOfJoinedClasses: each terminal takes itself, and its f is equal to the g of the one ahead of it, as if they stood in a ring.
func TestLongCyclesOfJoinedClasses(t *testing.T) {
	for n := 2; n <= 28; n++ {
		d := filled(n+1, func(a, b, among int) int {
			switch {
			case among == 2:
				return 0
			case a == b:
				return api.Takes
			case a == (b+1)%n:
				return api.Equal
			}
			return api.None
		}, 4)
		classes := append(probe.UpTo(n+1), probe.UpTo(n)[1:]...)
		classes = append(classes, 0, n+1)
		checkOf(t, mustDraw(t, d), precfun.Functions{Classes: classes, Cycle: probe.UpTo(n)})
	}
}

// functionsOf is what Of is to answer, as the chapter's words say it; with cycle to tell the shortest one of a graph.
func functionsOf(m *matrix.Matrix, cycle func(nodes int, list edges) []int) precfun.Functions {
	want := precfun.Functions{Classes: classesOf(m)}
	if f, g, ok := leastFit(m); ok {
		want.F, want.G = f, g
		return want
	}
	want.Cycle = cycle(len(want.Classes), edgesOf(m, want.Classes))
	return want
}

func TestOfManyMatrices(t *testing.T) {
	sizes := make(map[int]int)
	for _, d := range clearDrawings() {
		m := mustDraw(t, d)
		want := functionsOf(m, cycleOf)
		checkOf(t, m, want)
		sizes[len(want.Cycle)]++
	}
	for size := range 5 {
		if sizes[size] < 50 {
			t.Errorf("only %d have a cycle of %d classes", sizes[size], size)
		}
	}
	if without := sizes[0]; without < 1500 || without > len(clearDrawings())-1500 {
		t.Errorf("%d of %d have no cycle", without, len(clearDrawings()))
	}
}

// TestOfGreatMatrices takes the cycle from layer 12, as the chapter does: there are more of them than can be written out.
func TestOfGreatMatrices(t *testing.T) {
	cycles := 0
	for _, d := range greatDrawings() {
		m := mustDraw(t, d)
		want := functionsOf(m, func(nodes int, list edges) []int {
			_, round, _ := graph.Longest(nodes, list)
			cycles++
			return round
		})
		checkOf(t, m, want)
	}
	if cycles < 20 || cycles > 100 {
		t.Errorf("%d of %d have a cycle", cycles, len(greatDrawings()))
	}
}

// TestNoTerminals: a matrix that no grammar made has no terminals, and no clash.
func TestNoTerminals(t *testing.T) {
	checkGraph(t, &matrix.Matrix{}, nil)
	checkOf(t, &matrix.Matrix{}, precfun.Functions{})
}

// TestExamples is the table of chapter 13.
func TestExamples(t *testing.T) {
	m := read(t, "E : E + T | T; T : i")
	checkGraph(t, m, probe.UpTo(6), edges{{0, 3}, {0, 5}, {1, 3}, {1, 5}, {3, 2}, {4, 0}, {4, 2}}...)
	checkOf(t, m, precfun.Functions{F: []int{2, 2, 0}, G: []int{1, 3, 0}, Classes: probe.UpTo(6)})
	checkFits(t, m, []int{2, 2, 0}, []int{1, 3, 0}, true)
	checkFits(t, m, []int{3, 4, 0}, []int{2, 5, 0}, true)
	checkFits(t, m, []int{2, 2, 0}, []int{1, 2, 0}, false)
	checkOf(t, read(t, "S : a b | b a"), precfun.Functions{F: []int{1, 1, 0}, G: []int{1, 1, 0}, Classes: []int{0, 1, 2, 1, 0, 3}})
	checkError(t, read(t, "E : E + E | i"), api.ErrMatrix, api.Pair{First: api.Yields, Second: api.Takes})
	checkError(t, nil, api.ErrArg)
	g := probe.Read("Z : a b c d; S : c B | a D | P b | Q d; B : b; D : d; P : a; Q : c")
	g.Rules[0].Right = nil
	g.Axiom = 1
	checkOf(t, mustBe(t, g), precfun.Functions{Classes: probe.UpTo(10), Cycle: []int{0, 6, 2, 8}})
	// With the terminals in the order in which the text has them: c a b d.
	checkOf(t, read(t, "S : c B | a D | P b | Q d; B : b; D : d; P : a; Q : c"), precfun.Functions{Classes: probe.UpTo(10), Cycle: []int{0, 8, 1, 7}})
}
