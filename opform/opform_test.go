package opform_test

import (
	"math"
	"runtime"
	"slices"
	"testing"
	"weak"

	"dovetail/api"
	"dovetail/gram"
	"dovetail/opform"
	"dovetail/probe"
)

// noRule is the rule of an error that tells none.
const noRule = probe.None

// told is what an error tells: the one of all that it is, and its rule.
func told(err error) (which error, rule int) { return probe.Which(err), probe.RuleOf(err) }

func rule(left int, right ...int) api.Rule { return api.Rule{Left: left, Right: right} }

// of is a grammar of the terminals a, b, the nonterminals S, T and rules of S with these right sides.
func of(sides ...[]int) api.Grammar {
	g := api.Grammar{Terms: []string{"a", "b"}, Nonterms: []string{"S", "T"}}
	for _, side := range sides {
		g.Rules = append(g.Rules, rule(0, side...))
	}
	return g
}

func checkTaken(t *testing.T, g api.Grammar) {
	t.Helper()
	if err := opform.Check(g); err != nil {
		t.Errorf("Check of %v: %v", g.Rules, err)
	}
}

func checkRefused(t *testing.T, g api.Grammar, want error, rule int) {
	t.Helper()
	err := opform.Check(g)
	if which, r := told(err); which != want || r != rule {
		t.Errorf("Check of %v: %v, want %v in rule %d", g.Rules, err, want, rule)
	}
}

func checkFaults(t *testing.T, g api.Grammar, want ...opform.Fault) {
	t.Helper()
	if got := opform.Faults(g); !slices.Equal(got, want) {
		t.Errorf("Faults of %v: %v, want %v", g.Rules, got, want)
	}
}

func checkSkeleton(t *testing.T, right []int, want ...int) {
	t.Helper()
	if got := opform.Skeleton(right); !slices.Equal(got, want) {
		t.Errorf("Skeleton of %v: %v, want %v", right, got, want)
	}
}

// walked are the terminals that Terms tells.
func walked(right []int) []placed {
	var list []placed
	for at, term := range opform.Terms(right) {
		list = append(list, placed{at, term})
	}
	return list
}

func checkTerms(t *testing.T, right []int, want ...placed) {
	t.Helper()
	if got := walked(right); !slices.Equal(got, want) {
		t.Errorf("Terms of %v: %v, want %v", right, got, want)
	}
}

// P6.1

func TestCheckTakes(t *testing.T) {
	checkTaken(t, of())
	checkTaken(t, of([]int{0}))
	checkTaken(t, of([]int{-1}, []int{-2}, []int{-2}))
	checkTaken(t, of([]int{-1, 0, -2}, []int{0, 0, 1}, []int{-2, 1}, []int{1, -2, 1}))
	by := func(first, second int) []int { return slices.Repeat([]int{first, second}, api.MaxRight/2) }
	checkTaken(t, of(by(0, -1), by(-1, 0), by(1, 0), by(-2, 1)))
	many := of(slices.Repeat([][]int{{0, -1, 1}, {-1, 1}}, api.MaxSource/2)...)
	checkTaken(t, many)
}

func TestCheckTellsTheFirstRuleWithAFault(t *testing.T) {
	checkRefused(t, of(nil), api.ErrNotOperator, 0)
	checkRefused(t, of([]int{}), api.ErrNotOperator, 0)
	checkRefused(t, of([]int{-1, -1}), api.ErrNotOperator, 0)
	checkRefused(t, of([]int{0}, []int{0, -1, 1, -2, -1}), api.ErrNotOperator, 1)
	checkRefused(t, of([]int{0}, []int{-2, -1, 1}, nil, []int{-1, -1}), api.ErrNotOperator, 1)
	checkRefused(t, of([]int{0}, nil, []int{-1, -1}), api.ErrNotOperator, 1)
	last := of(append(slices.Repeat([][]int{{0}}, api.MaxSource-1), []int{-1, -2})...)
	checkRefused(t, last, api.ErrNotOperator, api.MaxSource-1)
}

// Rules that are alike but for what makes the fault: where one is taken, the other one is not.
func TestCheckKeepsRulesApart(t *testing.T) {
	checkRefused(t, of([]int{0}, nil), api.ErrNotOperator, 1)
	checkRefused(t, of(make([]int, api.MaxRight), []int{0}, nil), api.ErrNotOperator, 2)
	checkRefused(t, of([]int{-1}, []int{-1, -1}), api.ErrNotOperator, 1)
	checkRefused(t, of([]int{-2, 0, 1}, []int{-2, 0, -1}, []int{-2, -1, 0}), api.ErrNotOperator, 2)
	for at := 1; at < api.MaxRight; at++ {
		faulty := make([]int, api.MaxRight)
		sound := slices.Clone(faulty)
		sound[at-1], faulty[at-1], faulty[at] = -1, -1, -1
		checkRefused(t, of(sound, faulty), api.ErrNotOperator, 1)
	}
}

func TestCheckTellsGramsErrorFirst(t *testing.T) {
	for _, w := range probe.Wrongs(of(nil, []int{-1, -1}, []int{0})) {
		want, r := told(gram.Check(w.Grammar))
		if want == nil {
			t.Fatalf("%s: gram takes it", w.What)
		}
		checkRefused(t, w.Grammar, want, r)
	}
}

// P6.2

func TestFaults(t *testing.T) {
	checkFaults(t, api.Grammar{})
	checkFaults(t, of([]int{0}, []int{-1}, []int{-1, 0, -1}, []int{0, 0}))
	checkFaults(t, of(nil, []int{}), opform.Fault{Rule: 0}, opform.Fault{Rule: 1})
	checkFaults(t, of([]int{-1, -2}, []int{0}, []int{0, -2, -1, 1, -1, -1, -1}),
		opform.Fault{Rule: 0, At: 1}, opform.Fault{Rule: 2, At: 2}, opform.Fault{Rule: 2, At: 5}, opform.Fault{Rule: 2, At: 6})
}

// One rule that stands there twice has its faults twice.
func TestFaultsOfOneRuleTwice(t *testing.T) {
	g := of([]int{-1, -1}, []int{-2, -1}, []int{-1, -1}, nil, nil)
	checkFaults(t, g, opform.Fault{Rule: 0, At: 1}, opform.Fault{Rule: 1, At: 1}, opform.Fault{Rule: 2, At: 1}, opform.Fault{Rule: 3}, opform.Fault{Rule: 4})
}

func TestFaultsOfGrammarsThatMayNotBe(t *testing.T) {
	for _, g := range strange() {
		checkFaults(t, g, faultsOf(g)...)
	}
	g := api.Grammar{Rules: []api.Rule{{Left: -9, Right: []int{math.MinInt, math.MinInt, math.MaxInt, -60, -61}}}}
	checkFaults(t, g, opform.Fault{At: 1}, opform.Fault{At: 4})
	long := api.Grammar{Rules: []api.Rule{{Right: slices.Repeat([]int{-1}, 100000)}}}
	if got := opform.Faults(long); len(got) != 99999 || got[99998] != (opform.Fault{At: 99999}) {
		t.Errorf("Faults of a long rule: %d", len(got))
	}
}

func TestFaultsOfManyGrammars(t *testing.T) {
	for _, g := range append(manyGrammars(), smallGrammars()...) {
		checkFaults(t, g, faultsOf(g)...)
	}
}

// P6.3

func TestSkeletonAndTerms(t *testing.T) {
	checkSkeleton(t, nil)
	checkSkeleton(t, []int{})
	checkSkeleton(t, []int{-9, math.MinInt, -1}, -1, -1, -1)
	checkSkeleton(t, []int{0, 7, math.MaxInt}, 0, 7, math.MaxInt)
	checkTerms(t, nil)
	checkTerms(t, []int{})
	checkTerms(t, []int{-9, math.MinInt, -1})
	checkTerms(t, []int{5, 0, -1, 5, math.MaxInt}, placed{0, 5}, placed{1, 0}, placed{3, 5}, placed{4, math.MaxInt})
	for _, right := range probe.Sides(6, -2, -1, 0, 1) {
		checkSkeleton(t, right, skeletonOf(right)...)
		checkTerms(t, right, termsOf(right)...)
	}
}

func TestSkeletonAndTermsOfLongSides(t *testing.T) {
	right := slices.Repeat([]int{3, -4}, 50000)
	if got := opform.Skeleton(right); !slices.Equal(got, skeletonOf(right)) {
		t.Errorf("Skeleton of a long right side: %d numbers", len(got))
	}
	if got := walked(right); !slices.Equal(got, termsOf(right)) {
		t.Errorf("Terms of a long right side: %d", len(got))
	}
}

func TestTermsLeftEarlyAndGoneOverAgain(t *testing.T) {
	right := []int{4, -1, 5, 6}
	want := termsOf(right)
	walk := opform.Terms(right)
	for stop := range want {
		var got []placed
		for at, term := range walk {
			got = append(got, placed{at, term})
			if len(got) > stop {
				break
			}
		}
		if !slices.Equal(got, want[:stop+1]) {
			t.Errorf("left after %d: %v", stop+1, got)
		}
	}
	for range 2 {
		var got []placed
		for at, term := range walk {
			got = append(got, placed{at, term})
		}
		if !slices.Equal(got, want) {
			t.Errorf("gone over again: %v", got)
		}
	}
}

func TestTermsLeftEarlyAsksNoMore(t *testing.T) {
	asked := 0
	opform.Terms([]int{1, -1, 2, 3})(func(int, int) bool {
		asked++
		return asked < 2
	})
	if asked != 2 {
		t.Errorf("asked %d times", asked)
	}
}

func TestTermsInsideItself(t *testing.T) {
	walk := opform.Terms([]int{8, -1, 9})
	var got []int
	for outer := range walk {
		for inner := range walk {
			got = append(got, 10*outer+inner)
		}
	}
	if !slices.Equal(got, []int{0, 2, 20, 22}) {
		t.Errorf("a walk inside a walk: %v", got)
	}
}

func TestTermsTellsTheRightSideAsItWas(t *testing.T) {
	right := []int{1, -1, 2, -2}
	walk := opform.Terms(right)
	right[0], right[1], right[2], right[3] = -3, 4, 5, 6
	for range 2 {
		var got []placed
		for at, term := range walk {
			got = append(got, placed{at, term})
			right[2], right[3] = -1, -1
		}
		if !slices.Equal(got, []placed{{0, 1}, {2, 2}}) {
			t.Errorf("Terms of a right side that was changed: %v", got)
		}
	}
}

// P6.4

func TestNoFaultJustIfTaken(t *testing.T) {
	taken, refused := 0, 0
	for _, g := range append(manyGrammars(), smallGrammars()...) {
		faults := opform.Faults(g)
		if len(faults) == 0 {
			taken++
			checkTaken(t, g)
			continue
		}
		refused++
		checkRefused(t, g, api.ErrNotOperator, faults[0].Rule)
	}
	if taken < 2000 || refused < 2000 {
		t.Errorf("%d are taken, %d refused", taken, refused)
	}
}

func TestTerminalsInOperatorForm(t *testing.T) {
	for _, g := range append(manyGrammars(), smallGrammars()...) {
		if opform.Check(g) != nil {
			continue
		}
		for _, r := range g.Rules {
			terms := len(walked(r.Right))
			if _, ok := gram.Renaming(r); !ok && terms == 0 {
				t.Errorf("%v has no terminal", r)
			}
			if len(r.Right)-terms > terms+1 {
				t.Errorf("%v has %d terminals", r, terms)
			}
		}
	}
}

func TestOneSkeleton(t *testing.T) {
	all := probe.Sides(4, -2, -1, 0, 1)
	for _, a := range all {
		for _, b := range all {
			one := slices.Equal(opform.Skeleton(a), opform.Skeleton(b))
			alike := len(a) == len(b) && slices.Equal(termsOf(a), termsOf(b))
			if one != alike {
				t.Errorf("one skeleton of %v and %v: %v", a, b, one)
			}
			if alike && !slices.Equal(walked(a), walked(b)) {
				t.Errorf("Terms of %v and %v differ", a, b)
			}
		}
	}
}

// P6.5

func TestNothingIsChanged(t *testing.T) {
	for _, g := range append(manyGrammars()[:1000], strange()...) {
		g = probe.Roomy(g)
		before := gram.Copy(probe.Whole(g))
		opform.Check(g)
		opform.Faults(g)
		for _, r := range g.Rules {
			opform.Skeleton(r.Right)
			walked(r.Right)
		}
		if !gram.Same(before, probe.Whole(g)) {
			t.Fatalf("%v is changed to %v", before, probe.Whole(g))
		}
	}
}

// TestNothingIsKept: a later change of what was handed in is seen by the next call, and not in what was answered.
func TestNothingIsKept(t *testing.T) {
	g := of([]int{-1, -1}, []int{0, -1, 1})
	faults, skeleton := opform.Faults(g), opform.Skeleton(g.Rules[1].Right)
	g.Rules[0].Right[1], g.Rules[1].Right[0], g.Rules[1].Right[2] = 1, -1, -2
	if !slices.Equal(faults, []opform.Fault{{Rule: 0, At: 1}}) || !slices.Equal(skeleton, []int{0, -1, 1}) {
		t.Errorf("the answers became %v, %v", faults, skeleton)
	}
	checkFaults(t, g, opform.Fault{Rule: 1, At: 1}, opform.Fault{Rule: 1, At: 2})
	checkSkeleton(t, g.Rules[1].Right, -1, -1, -1)
	checkRefused(t, g, api.ErrNotOperator, 1)
	g.Rules[1].Right[1] = 1
	checkTaken(t, g)
}

func TestAnswersAreNewMemory(t *testing.T) {
	for _, right := range probe.Sides(4, -1, 0) {
		right = append(slices.Clone(right), 7)[:len(right)]
		if !probe.Apart(right, opform.Skeleton(right), opform.Skeleton(right)) {
			t.Errorf("skeletons of %v share memory", right)
		}
	}
	g := of(nil, []int{-1, -1, -1})
	if first, second := opform.Faults(g), opform.Faults(g); !probe.Apart(first, second) {
		t.Error("lists of faults share memory")
	}
	if first, second := opform.Check(g), opform.Check(g); first == second {
		t.Error("two errors of a rule are one")
	}
}

// A walk holds a copy of its own: the list that was handed in may go.
func TestTermsKeepsNoList(t *testing.T) {
	for size := range 3 {
		right := make([]int, 1000)
		mark := weak.Make(&right[0])
		walk := opform.Terms(right[:size])
		right = nil
		runtime.GC()
		if mark.Value() != nil {
			t.Errorf("a list of %d symbols is kept", size)
		}
		count := 0
		for range walk {
			count++
		}
		if count != size {
			t.Errorf("%d terminals, want %d", count, size)
		}
	}
}

// TestExamples is the table of chapter 6.
func TestExamples(t *testing.T) {
	checkTaken(t, of([]int{0, -1, 1}, []int{-1}))
	checkRefused(t, of([]int{0, -1, 1}, []int{-1}, nil), api.ErrNotOperator, 2)
	checkRefused(t, of([]int{0}, []int{0, -1, -1}), api.ErrNotOperator, 1)
	checkFaults(t, of([]int{-1, -1, -1}, nil), opform.Fault{Rule: 0, At: 1}, opform.Fault{Rule: 0, At: 2}, opform.Fault{Rule: 1, At: 0})
	checkSkeleton(t, []int{-3, 0, -1, 1}, -1, 0, -1, 1)
	checkTerms(t, []int{-3, 0, -1, 1}, placed{1, 0}, placed{3, 1})
}
