package precfun_test

import (
	"iter"
	"math"
	"slices"
	"testing"

	"dovetail/api"
	"dovetail/matrix"
	"dovetail/precfun"
	"dovetail/probe"
)

func checkFits(t *testing.T, m *matrix.Matrix, f, g []int, want bool) {
	t.Helper()
	if precfun.Fits(m, f, g) != want {
		t.Errorf("Fits of %s with %v, %v: %v", drawingOf(m), f, g, !want)
	}
}

// mustOf is what Of answers where it answers no error.
func mustOf(t *testing.T, m *matrix.Matrix) precfun.Functions {
	t.Helper()
	x, err := precfun.Of(m)
	if err != nil {
		t.Fatalf("Of %s: %v", drawingOf(m), err)
	}
	return x
}

// listsOf are all lists of so many numbers from the least one up to the greatest.
func listsOf(size, least, greatest int) iter.Seq[[]int] {
	return func(yield func([]int) bool) {
		list := slices.Repeat([]int{least}, size)
		for yield(slices.Clone(list)) {
			at := 0
			for at < size && list[at] == greatest {
				list[at] = least
				at++
			}
			if at == size {
				return
			}
			list[at]++
		}
	}
}

// P13.3

func TestFits(t *testing.T) {
	cases := []struct {
		drawing string
		f, g    []int
		want    bool
	}{
		{"< .; . .", []int{0, 0}, []int{1, 0}, true},
		{"< .; . .", []int{1, 0}, []int{1, 0}, false},
		{"< .; . .", []int{2, 0}, []int{1, 0}, false},
		{"= .; . .", []int{0, 0}, []int{1, 0}, false},
		{"= .; . .", []int{1, 0}, []int{1, 0}, true},
		{"= .; . .", []int{2, 0}, []int{1, 0}, false},
		{"> .; . .", []int{0, 0}, []int{1, 0}, false},
		{"> .; . .", []int{1, 0}, []int{1, 0}, false},
		{"> .; . .", []int{2, 0}, []int{1, 0}, true},
		// Where nothing holds, all numbers fit.
		{". .; . .", []int{7, -3}, []int{1, 12}, true},
		{".", []int{-7}, []int{4}, true},
		// The end's numbers are looked at like all others.
		{". >; < .", []int{1, 0}, []int{1, 0}, true},
		{". >; < .", []int{0, 0}, []int{1, 0}, false},
		{". >; < .", []int{1, 1}, []int{1, 0}, false},
		{". >; < .", []int{-4, -8}, []int{-7, -5}, true},
		// f of the first terminal, g of the second: not the other way about.
		{". < .; . . .; . . .", []int{0, 5, 5}, []int{0, 1, 0}, true},
		{". < .; . . .; . . .", []int{1, 0, 0}, []int{5, 1, 5}, false},
		// The last of many pairs.
		{"= = .; = > .; . . .", []int{1, 1, 0}, []int{1, 1, 0}, false},
		{"= . .; = > .; . . .", []int{1, 1, 0}, []int{1, 0, 0}, true},
	}
	for _, c := range cases {
		checkFits(t, mustDraw(t, drawn(c.drawing)), c.f, c.g, c.want)
	}
}

func TestFitsOfExtremes(t *testing.T) {
	m := mustDraw(t, drawn("< .; . ."))
	checkFits(t, m, []int{math.MinInt, 0}, []int{math.MaxInt, 0}, true)
	checkFits(t, m, []int{math.MaxInt, 0}, []int{math.MinInt, 0}, false)
	m = mustDraw(t, drawn("> .; . ."))
	checkFits(t, m, []int{math.MaxInt, 0}, []int{math.MinInt, 0}, true)
	checkFits(t, m, []int{math.MinInt, 0}, []int{math.MaxInt, 0}, false)
	m = mustDraw(t, drawn("= .; . ."))
	checkFits(t, m, []int{math.MinInt, 0}, []int{math.MinInt, 0}, true)
	checkFits(t, m, []int{math.MinInt, 0}, []int{math.MaxInt, 0}, false)
	checkFits(t, m, []int{math.MinInt, 0}, []int{0, 0}, false)
}

func TestFitsOfListsOfAnotherSize(t *testing.T) {
	for _, m := range []*matrix.Matrix{nil, {}, mustDraw(t, drawn(".")), mustDraw(t, drawn(". .; . .")), mustDraw(t, drawn(". . .; . . .; . . .")), mustBe(t, taking())} {
		n := m.Terms()
		x, _ := precfun.Of(m)
		for _, f := range []int{0, 1, 2, 3, 4, n, n + 1, 2 * n, 59, 60, 61, 120, 300} {
			for _, g := range []int{0, 1, 2, 3, 4, n, n + 1, 2 * n, 59, 60, 61, 120, 300} {
				first, second := append(slices.Clone(x.F), make([]int, 300)...)[:f], append(slices.Clone(x.G), make([]int, 300)...)[:g]
				checkFits(t, m, first, second, f == n && g == n)
			}
		}
		checkFits(t, m, nil, nil, n == 0)
		checkFits(t, m, []int{}, nil, n == 0)
		checkFits(t, m, nil, []int{}, n == 0)
	}
}

// Nothing fits a clash, whichever it is.
func TestFitsOfClashes(t *testing.T) {
	for _, cell := range signs()[4:] {
		m := mustDraw(t, drawing{{cell, "."}, {".", "."}})
		for f := range 3 {
			checkFits(t, m, []int{f, 0}, []int{1, 0}, false)
		}
	}
	m := mustDraw(t, drawn("= < >; > <> .; < . ."))
	for list := range listsOf(6, 0, 2) {
		checkFits(t, m, list[:3], list[3:], false)
	}
}

func TestFitsOfManyMatrices(t *testing.T) {
	var numbers probe.Numbers
	fitting := 0
	check := func(m *matrix.Matrix, list []int) {
		t.Helper()
		f, g := list[:m.Terms()], list[m.Terms():]
		want := fit(m, f, g)
		checkFits(t, m, f, g, want)
		if want {
			fitting++
		}
	}
	for _, d := range slices.Concat(clearDrawings(), clashingDrawings(), greatDrawings()) {
		m := mustDraw(t, d)
		check(m, ranked(&numbers, m.Terms()))
		f, g, ok := leastFit(m)
		if !ok {
			continue
		}
		list := slices.Concat(f, g)
		check(m, list)
		// All moved by one number fit as well; with one moved alone, some do.
		for k := range list {
			list[k] -= 3
		}
		check(m, list)
		for k := range list {
			for _, by := range []int{1, -1} {
				moved := slices.Clone(list)
				moved[k] += by
				check(m, moved)
			}
		}
	}
	if fitting < 20000 {
		t.Errorf("only %d fit", fitting)
	}
}

// P13.4

func noneBelow(list []int, bounds ...int) bool {
	for k, number := range list {
		if number < bounds[k] {
			return false
		}
	}
	return true
}

func TestFunctionsFitAndAreTheLeast(t *testing.T) {
	var numbers probe.Numbers
	tried := 0
	for k := range 3000 {
		n := 2 + k%9
		ranks := ranked(&numbers, n)
		m := mustDraw(t, mixed(&numbers, n, 1+numbers.Below(10), 4, ranks))
		x := mustOf(t, m)
		checkFits(t, m, ranks[:n], ranks[n:], true)
		checkFits(t, m, x.F, x.G, true)
		list := slices.Concat(x.F, x.G)
		if len(list) != 2*n || !noneBelow(list, make([]int, 2*n)...) || !noneBelow(ranks, list...) {
			t.Fatalf("%s: %v, and %v fit", drawingOf(m), x, ranks)
		}
		if !slices.Equal(list, ranks) {
			tried++
		}
	}
	if tried < 2000 {
		t.Errorf("only %d have other numbers that fit", tried)
	}
}

// TestCyclesAreCycles: each class of one has an edge to the next, the last one to the first, and none is there twice.
func TestCyclesAreCycles(t *testing.T) {
	tried := 0
	for _, d := range slices.Concat(clearDrawings(), greatDrawings()) {
		m := mustDraw(t, d)
		x := mustOf(t, m)
		if len(x.Cycle) == 0 {
			continue
		}
		tried++
		_, list, _ := precfun.Graph(m)
		for k, class := range x.Cycle {
			next := x.Cycle[(k+1)%len(x.Cycle)]
			if !slices.Contains(list, [2]int{class, next}) || slices.Contains(x.Cycle[:k], class) {
				t.Fatalf("%s: the cycle %v", d, x.Cycle)
			}
		}
		if len(x.F) > 0 || len(x.G) > 0 {
			t.Fatalf("%s: %v", d, x)
		}
		if _, _, ok := leastFit(m); ok {
			t.Fatalf("%s: the cycle %v, and numbers that fit", d, x.Cycle)
		}
	}
	if tried < 1500 {
		t.Errorf("only %d have a cycle", tried)
	}
}

// P13.4, P13.5

// checkAll tries all lists of numbers up to a greatest one: where any fit, there is no clash, and F and G are the least of them; and nothing fits where there is a clash or a cycle. It tells whether any fit.
func checkAll(t *testing.T, d drawing, greatest int) bool {
	t.Helper()
	m := mustDraw(t, d)
	n := m.Terms()
	x, err := precfun.Of(m)
	found := false
	for list := range listsOf(2*n, 0, greatest) {
		if !precfun.Fits(m, list[:n], list[n:]) {
			continue
		}
		found = true
		if _, clash := m.Clash(); clash || err != nil || len(x.Cycle) > 0 || len(x.F) != n || len(x.G) != n {
			t.Fatalf("%s: %v fit, %v, %v", d, list, x, err)
		}
		if !noneBelow(list[:n], x.F...) || !noneBelow(list[n:], x.G...) {
			t.Fatalf("%s: %v fit, below %v", d, list, x)
		}
	}
	return found
}

func TestAllNumbersOfSmallMatrices(t *testing.T) {
	for _, d := range slices.Concat(allOf(1, 8), allOf(2, 8)) {
		_, err := precfun.Of(mustDraw(t, d))
		// Four nodes have three levels above 0 at the most, and one relation of a terminal with itself makes no cycle.
		if found := checkAll(t, d, 3); found != (err == nil) {
			t.Errorf("%s: %v, and any fit: %v", d, err, found)
		}
	}
	fitting, unlike := 0, 0
	for _, d := range allOf(3, 4) {
		x := mustOf(t, mustDraw(t, d))
		found := checkAll(t, d, 2)
		if found {
			fitting++
		}
		low := len(x.Cycle) == 0 && slices.Max(append(slices.Clone(x.F), x.G...)) <= 2
		if found != low {
			unlike++
		}
	}
	if fitting < 1000 || unlike > 0 {
		t.Errorf("only %d have numbers that fit, %d others than F and G", fitting, unlike)
	}
}

// TestAnyThatFit: numbers below 0 count like others, and clashes never have any.
func TestAnyThatFit(t *testing.T) {
	var numbers probe.Numbers
	fitting := 0
	for _, d := range slices.Concat(clearDrawings(), clashingDrawings()) {
		m := mustDraw(t, d)
		n := m.Terms()
		for range 20 {
			list := make([]int, 2*n)
			for k := range list {
				list[k] = numbers.Below(2*n) - n
			}
			if !precfun.Fits(m, list[:n], list[n:]) {
				continue
			}
			fitting++
			x, err := precfun.Of(m)
			if _, clash := m.Clash(); clash || err != nil || len(x.Cycle) > 0 || !precfun.Fits(m, x.F, x.G) {
				t.Fatalf("%s: %v fit, %v, %v", d, list, x, err)
			}
		}
	}
	if fitting < 500 {
		t.Errorf("only %d fit", fitting)
	}
}

// P13.6

// answer is what both calls tell of a matrix.
type answer struct {
	functions precfun.Functions
	classes   []int
	edges     edges
}

func ask(m *matrix.Matrix) answer {
	var a answer
	a.functions, _ = precfun.Of(m)
	a.classes, a.edges, _ = precfun.Graph(m)
	return a
}

func (a answer) lists() [][]int {
	return [][]int{a.functions.F, a.functions.G, a.functions.Classes, a.functions.Cycle, a.classes}
}

func (a answer) same(b answer) bool {
	return sameFunctions(a.functions, b.functions) && slices.Equal(a.classes, b.classes) && slices.Equal(a.edges, b.edges)
}

// spoil overwrites all lists of an answer, with the room behind them.
func (a answer) spoil() {
	for _, list := range a.lists() {
		list = list[:cap(list)]
		for k := range list {
			list[k] = 99
		}
	}
	clear(a.edges[:cap(a.edges)])
}

func TestAnswersAreNewMemory(t *testing.T) {
	for _, d := range slices.Concat(allOf(2, 4), mixedDrawings()[:1000], greatDrawings()) {
		m := mustDraw(t, d)
		a, b, want := ask(m), ask(m), ask(m)
		if !probe.Apart(slices.Concat(a.lists(), b.lists())...) || !probe.Apart(a.edges, b.edges) {
			t.Fatalf("lists of %s share memory", d)
		}
		a.spoil()
		if !b.same(want) || !ask(m).same(want) || drawingOf(m).String() != d.String() {
			t.Fatalf("%s: %v became %v", d, want, b)
		}
	}
}

// TestNothingIsChanged: lists that are handed in stay as they are, with the room behind them, and so does the matrix.
func TestNothingIsChanged(t *testing.T) {
	for _, d := range slices.Concat(allOf(2, 8), mixedDrawings()[:500]) {
		m := mustDraw(t, d)
		n := m.Terms()
		list := probe.UpTo(3 * n)
		precfun.Fits(m, list[:n], list[n:2*n])
		precfun.Fits(m, list[:n+1], list[n:])
		precfun.Fits(nil, list[:n], list[n:])
		ask(m)
		if !slices.Equal(list, probe.UpTo(3*n)) || drawingOf(m).String() != d.String() {
			t.Fatalf("%s, %v became %s", d, list, drawingOf(m))
		}
	}
}

// P0.3

func TestRefusedCallsChangeNothing(t *testing.T) {
	clash := mustDraw(t, drawn("= <> >; . = .; < . ."))
	for _, d := range mixedDrawings()[:300] {
		m := mustDraw(t, d)
		want := ask(m)
		checkError(t, nil, api.ErrArg)
		checkError(t, clash, api.ErrMatrix, api.Pair{B: 1, First: api.Yields, Second: api.Takes})
		if got := ask(m); !got.same(want) {
			t.Fatalf("%s: %v, and later %v", d, want, got)
		}
	}
}
