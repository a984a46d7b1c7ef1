package normal_test

import (
	"math"
	"slices"
	"testing"

	"dovetail/api"
	"dovetail/gram"
	"dovetail/normal"
	"dovetail/probe"
)

// checkComes wants what a form comes to: its text has _ for each set.
func checkComes(t *testing.T, g api.Grammar, text string, want api.Set, sets ...api.Set) {
	t.Helper()
	if s, err := normal.Comes(g, spelt(g, text), sets); err != nil || s != want {
		t.Errorf("Comes of %s, %v: %d, %v, want %d", text, sets, s, err, want)
	}
}

// checkNoForm wants ErrArg and nothing else.
func checkNoForm(t *testing.T, g api.Grammar, right []int, sets ...api.Set) {
	t.Helper()
	if s, err := normal.Comes(g, right, sets); probe.Which(err) != api.ErrArg || probe.RuleOf(err) != probe.None || s != 0 {
		t.Errorf("Comes of %v, %v: %d, %v, want ErrArg", right, sets, s, err)
	}
}

// P10.2

func TestComes(t *testing.T) {
	g := brackets()
	checkComes(t, g, "i", 3)
	checkComes(t, g, "+", 0)
	checkComes(t, g, "( )", 0)
	checkComes(t, g, "i i", 0)
	checkComes(t, g, "( _ )", 3, 1)
	checkComes(t, g, "( _ )", 0, 2)
	checkComes(t, g, "( _ )", 3, 3)
	checkComes(t, g, "( _ )", 0, 0)
	checkComes(t, g, ") _ (", 0, 3)
	checkComes(t, g, "( _", 0, 3)
	checkComes(t, g, "_ )", 0, 3)
	checkComes(t, g, "_ + _", 1, 1, 2)
	checkComes(t, g, "_ + _", 1, 3, 3)
	checkComes(t, g, "_ + _", 0, 2, 2)
	checkComes(t, g, "_ + _", 0, 1, 1)
	checkComes(t, g, "_ + _", 0, 3, 0)
	checkComes(t, g, "_ + _", 0, 0, 3)
	checkComes(t, g, "_ i _", 0, 3, 3)
	checkComes(t, g, "i + i", 0)
	checkComes(t, g, "_ + i", 0, 3)
}

// The sets stand in the order of the places, and each is for its own place.
func TestComesOrderOfSets(t *testing.T) {
	g := probe.Read("S : a A b B c D d; A : a; B : b; D : c; X : a B b A c D d | A a B; Y : A a B | a")
	a, b, d := api.Set(2), api.Set(4), api.Set(8)
	checkComes(t, g, "a _ b _ c _ d", 1, a, b, d)
	checkComes(t, g, "a _ b _ c _ d", 16, b, a, d)
	checkComes(t, g, "a _ b _ c _ d", 17, a|b, a|b, d)
	checkComes(t, g, "a _ b _ c _ d", 17, 63, 63, 63)
	checkComes(t, g, "a _ b _ c _ d", 0, d, b, a)
	checkComes(t, g, "a _ b _ c _ d", 0, a, b, a|b)
	checkComes(t, g, "_ a _", 48, a, b)
	checkComes(t, g, "_ a _", 0, b, a)
	checkComes(t, g, "a", 34)
}

func TestComesOverRenamings(t *testing.T) {
	g := probe.Read("S : A; A : B | a; B : b B b | b; D : S d")
	checkComes(t, g, "a", 3)
	checkComes(t, g, "b", 7)
	checkComes(t, g, "b _ b", 7, 4)
	checkComes(t, g, "b _ b", 0, 3)
	checkComes(t, g, "_ d", 8, 1)
	checkComes(t, g, "_ d", 0, 14)
	round := probe.Read("S : A | s; A : B; B : S; D : d")
	checkComes(t, round, "s", 7)
	checkComes(t, round, "d", 8)
}

// Sets need not be reached, and a form of any length is one.
func TestComesOfAnySets(t *testing.T) {
	g := probe.Read("S : S a | a S | A a A; A : A a")
	checkComes(t, g, "_ a", 1, 1)
	checkComes(t, g, "_ a", 2, 2)
	checkComes(t, g, "_ a", 3, 3)
	checkComes(t, g, "_ a _", 1, 2, 2)
	for _, size := range []int{31, 32, 33, 34, 64, 1000, 100001} {
		long := make([]int, size)
		if s, err := normal.Comes(g, long, nil); err != nil || s != 0 {
			t.Errorf("Comes of %d terminals: %d, %v", size, s, err)
		}
		sets := make([]api.Set, 0, size)
		for at := range long {
			if at%2 == 1 {
				long[at] = -1
				sets = append(sets, 3)
			}
		}
		if s, err := normal.Comes(g, long, sets); err != nil || s != 0 {
			t.Errorf("Comes of %d symbols: %d, %v", size, s, err)
		}
	}
}

func TestComesOfLongRules(t *testing.T) {
	g := probe.Read("S : + | a | b A; A : a")
	long := row(16)
	g.Rules = append(g.Rules, probe.Rule(0, long...))
	sets := slices.Repeat([]api.Set{1}, 16)
	if s, err := normal.Comes(g, long, sets); err != nil || s != 1 {
		t.Errorf("Comes of 32 symbols: %d, %v", s, err)
	}
	for at := range sets {
		for _, other := range []api.Set{0, 2, 3} {
			with := slices.Clone(sets)
			with[at] = other
			if s, err := normal.Comes(g, long, with); err != nil || s != other&1 {
				t.Errorf("Comes of 32 symbols, with %d at %d: %d, %v", other, at, s, err)
			}
		}
		with := slices.Clone(long)
		with[2*at+1] = 1
		if s, err := normal.Comes(g, with, sets); err != nil || s != 0 {
			t.Errorf("Comes of 32 symbols, with another terminal: %d, %v", s, err)
		}
	}
}

// isForm tells whether numbers and sets are a form of a grammar, as P10.2 says it.
func isForm(g api.Grammar, right []int, sets []api.Set) bool {
	holes := 0
	for at, symbol := range right {
		if symbol < -1 || symbol >= len(g.Terms) || symbol == -1 && at+1 < len(right) && right[at+1] == -1 {
			return false
		}
		if symbol == -1 {
			holes++
		}
	}
	for _, s := range sets {
		for number := len(g.Nonterms); number < 64; number++ {
			if s>>number&1 == 1 {
				return false
			}
		}
	}
	return holes == len(sets) && len(right) > 0 && !slices.Equal(right, []int{-1})
}

// lists are all lists of at most so many of those sets.
func lists(most int, sets ...api.Set) [][]api.Set {
	list := [][]api.Set{nil}
	for from := 0; most > 0; most-- {
		longest := list[from:]
		from = len(list)
		for _, l := range longest {
			for _, s := range sets {
				list = append(list, append(slices.Clone(l), s))
			}
		}
	}
	return list
}

// checkAllForms holds Comes of all numbers and lists of sets against the chapter's words, and answers how many forms come to something, to nothing, and how many are none.
func checkAllForms(t *testing.T, g api.Grammar, sides [][]int, sets [][]api.Set) (something, nothing, wrong int) {
	t.Helper()
	up := comers(g)
	for _, right := range sides {
		for _, list := range sets {
			if !isForm(g, right, list) {
				checkNoForm(t, g, right, list...)
				wrong++
				continue
			}
			form := slices.Clone(right)
			for k, at := range places(right) {
				form[at] = -1 - k
			}
			want := comesTo(g, up, form, list)
			if s, err := normal.Comes(g, right, list); err != nil || s != want {
				t.Errorf("Comes of %v, %v in %v: %d, %v, want %d", right, list, g, s, err, want)
			}
			if want != 0 {
				something++
			} else {
				nothing++
			}
		}
	}
	return something, nothing, wrong
}

func TestComesOfAllForms(t *testing.T) {
	sides := probe.Sides(3, -2, -1, 0, 1, 2)
	sets := lists(2, 0, 1, 2, 3, 4, 1<<63)
	for _, text := range []string{
		"S : a S b | a b | A; A : a | S a S | b A",
		"S : S a A | A b; A : a b S | S | b",
		"S : a a A | b; A : a A a",
		"S : S; A : a A b | S a | a",
	} {
		if something, nothing, wrong := checkAllForms(t, probe.Read(text), sides, sets); something < 5 || nothing < 50 || wrong < 5000 {
			t.Errorf("%s: %d, %d, %d", text, something, nothing, wrong)
		}
	}
}

func TestComesOfManyGrammars(t *testing.T) {
	var n probe.Numbers
	something := 0
	for _, g := range append(manyGrammars()[:1000], wideGrammars()[:100]...) {
		var sides [][]int
		for _, r := range g.Rules {
			side := slices.Clone(r.Right)
			for _, at := range places(side) {
				side[at] = -1
			}
			sides = append(sides, side)
		}
		for _, side := range sides {
			for range 4 {
				list := make([]api.Set, len(places(side)))
				for k := range list {
					for range 1 + n.Below(3) {
						list[k] |= 1 << n.Below(len(g.Nonterms))
					}
				}
				some, _, _ := checkAllForms(t, g, [][]int{side}, [][]api.Set{list})
				something += some
			}
		}
	}
	if something < 5000 {
		t.Errorf("only %d forms come to something", something)
	}
}

func TestComesOfWrongNumbers(t *testing.T) {
	g := brackets()
	for _, no := range []int{4, 5, 59, 60, 64, math.MaxInt, -2, -3, -60, math.MinInt} {
		checkNoForm(t, g, []int{no})
		checkNoForm(t, g, []int{no}, 1)
		checkNoForm(t, g, []int{1, no})
		checkNoForm(t, g, []int{2, -1, no}, 1)
		checkNoForm(t, g, []int{2, no, 3})
		checkNoForm(t, g, []int{2, no, 3}, 1)
	}
	for number := 2; number < 64; number++ {
		checkNoForm(t, g, []int{2, -1, 3}, 1<<number)
		checkNoForm(t, g, []int{2, -1, 3}, 1<<number|3)
		checkNoForm(t, g, []int{-1, 0, -1}, 3, 1<<number)
		checkNoForm(t, g, []int{-1, 0, -1}, 1<<number, 3)
	}
	checkNoForm(t, g, nil)
	checkNoForm(t, g, nil, 1)
	checkNoForm(t, g, []int{})
	checkNoForm(t, g, []int{-1})
	checkNoForm(t, g, []int{-1}, 3)
	checkNoForm(t, g, []int{-1, -1}, 3, 3)
	checkNoForm(t, g, []int{-1, -1, 0}, 3, 3)
	checkNoForm(t, g, []int{-1, 0, -1}, 3)
	checkNoForm(t, g, []int{-1, 0, -1}, 3, 3, 3)
	checkNoForm(t, g, []int{-1, 0, -1})
	checkNoForm(t, g, []int{0}, 0)
}

// All 60 nonterminals may be in a set, and no more.
func TestComesOfTheMostNonterminals(t *testing.T) {
	g := api.Grammar{Terms: []string{"a"}, Nonterms: probe.Names("N", 59)}
	for n := range g.Nonterms {
		g.Rules = append(g.Rules, probe.Rule(n, 0, -59+n))
	}
	for n := range g.Nonterms {
		if s, err := normal.Comes(g, []int{0, -1}, []api.Set{1 << n}); err != nil || s != 1<<(58-n) {
			t.Errorf("Comes of nonterminal %d: %d, %v", n, s, err)
		}
	}
	if s, err := normal.Comes(g, []int{0, -1}, []api.Set{1<<59 - 1}); err != nil || s != 1<<59-1 {
		t.Errorf("Comes of all nonterminals: %d, %v", s, err)
	}
	checkNoForm(t, g, []int{0, -1}, 1<<59)
	checkNoForm(t, g, []int{0, -1}, 1<<60)
	none := api.Grammar{Nonterms: probe.Names("N", 60)}
	checkNoForm(t, none, []int{0})
	checkNoForm(t, none, []int{-1}, 1)
}

// TestComesOfEachRule: a rule of the normal form is a form, and its Left is what that comes to.
func TestComesOfEachRule(t *testing.T) {
	for _, g := range append(manyGrammars()[:1000], wideGrammars()[:50]...) {
		n, err := normal.Of(g)
		if err != nil {
			continue
		}
		for _, r := range n.Rules {
			right := slices.Clone(r.Right)
			var list []api.Set
			for _, at := range places(right) {
				list = append(list, n.Sets[-1-right[at]])
				right[at] = -1
			}
			if s, err := normal.Comes(g, right, list); err != nil || s != n.Sets[r.Left] {
				t.Errorf("Comes of %v in %v: %d, %v", r, g, s, err)
			}
		}
	}
}

// P10.3

func checkStarts(t *testing.T, g api.Grammar, n api.Normal, want ...int) {
	t.Helper()
	if got := normal.Starts(g, n); !slices.Equal(got, want) {
		t.Errorf("Starts of %d in %v: %v, want %v", g.Axiom, n.Sets, got, want)
	}
}

func TestStarts(t *testing.T) {
	n := api.Normal{Sets: []api.Set{1, 2, 3, 4, 7, 8}}
	checkStarts(t, api.Grammar{Axiom: 0}, n, 0, 2, 4)
	checkStarts(t, api.Grammar{Axiom: 1}, n, 1, 2, 4)
	checkStarts(t, api.Grammar{Axiom: 2}, n, 3, 4)
	checkStarts(t, api.Grammar{Axiom: 3}, n, 5)
	for axiom := 4; axiom < 64; axiom++ {
		checkStarts(t, api.Grammar{Axiom: axiom}, n)
	}
	checkStarts(t, brackets(), api.Normal{})
}

// Neither the grammar nor the normal form need be one.
func TestStartsOfAny(t *testing.T) {
	n := api.Normal{Sets: []api.Set{math.MaxUint64, 0, 1 << 63, math.MaxUint64, 1, 1 << 62, 1}, Rules: []api.Rule{probe.Rule(99, 99)}}
	checkStarts(t, api.Grammar{}, n, 0, 3, 4, 6)
	checkStarts(t, api.Grammar{Axiom: 1}, n, 0, 3)
	checkStarts(t, api.Grammar{Axiom: 61}, n, 0, 3)
	checkStarts(t, api.Grammar{Axiom: 62}, n, 0, 3, 5)
	checkStarts(t, api.Grammar{Axiom: 63}, n, 0, 2, 3)
	for _, no := range []int{-1, -2, -63, -64, math.MinInt, 64, 65, 127, 128, 256, math.MaxInt} {
		checkStarts(t, api.Grammar{Axiom: no}, n)
	}
	for _, w := range probe.Wrongs(brackets()) {
		w.Grammar.Axiom = 62
		checkStarts(t, w.Grammar, n, 0, 3, 5)
	}
}

func TestStartsOfManyGrammars(t *testing.T) {
	for _, g := range append(manyGrammars(), wideGrammars()...) {
		n, err := normal.Of(g)
		if err != nil {
			continue
		}
		for g.Axiom = range g.Nonterms {
			checkStarts(t, g, n, having(n.Sets, g.Axiom)...)
		}
	}
}

// P10.7

// roomy is a list in new memory with room for one more behind it, which holds that.
func roomy[T any](list []T, spare T) []T {
	return append(slices.Clone(list), spare)[:len(list)]
}

func TestNothingIsChanged(t *testing.T) {
	for _, g := range slices.Concat(manyGrammars()[:1500], wideGrammars()[:40], []api.Grammar{brackets(), stars(24), {}, probe.Read("S : S S")}) {
		g = probe.Roomy(g)
		before := gram.Copy(probe.Whole(g))
		n, _ := normal.Of(g)
		right, list := roomy([]int{-1, 0, -1, 0}, -1), roomy([]api.Set{1, 1}, 1)
		normal.Comes(g, right, list)
		normal.Comes(g, right[:2], list[:1])
		if !slices.Equal(right[:5], []int{-1, 0, -1, 0, -1}) || !slices.Equal(list[:3], []api.Set{1, 1, 1}) {
			t.Fatalf("Comes changed %v, %v", right[:5], list[:3])
		}
		n.Sets, n.Rules = roomy(n.Sets, 1), roomy(n.Rules, probe.Rule(0, -1))
		was := api.Normal{Sets: slices.Clone(n.Sets[:len(n.Sets)+1]), Rules: gram.Copy(api.Grammar{Rules: n.Rules[:len(n.Rules)+1]}).Rules}
		normal.Starts(g, n)
		if !sameNormal(was, api.Normal{Sets: n.Sets[:len(n.Sets)+1], Rules: n.Rules[:len(n.Rules)+1]}) {
			t.Fatalf("Starts changed %s", drawn(was))
		}
		if !gram.Same(before, probe.Whole(g)) {
			t.Fatalf("%v is changed to %v", before, probe.Whole(g))
		}
	}
}

// TestNothingIsKept: a later change of what was handed in is seen by the next call, and not in what was answered.
func TestNothingIsKept(t *testing.T) {
	g := brackets()
	n := mustOf(t, g)
	starts := normal.Starts(g, n)
	g.Rules[3].Right[1], g.Rules[2].Right[0] = -2, 0
	if got := drawn(n); got != "1 3; 0: -2 0 -2; 0: -1 0 -2; 1: 1; 1: 2 -2 3; 1: 2 -1 3" {
		t.Errorf("the normal form became %s", got)
	}
	checkOf(t, g, "1 3; 0: -2 0 -2; 0: -1 0 -2; 1: 0; 1: 2 -2 3")
	n.Sets[0] = 2
	if !slices.Equal(starts, []int{0, 1}) {
		t.Errorf("the starts became %v", starts)
	}
	checkStarts(t, g, n, 1)
	right, list := []int{2, -1, 3}, []api.Set{1}
	normal.Comes(brackets(), right, list)
	right[0], list[0] = 1, 3
	checkComes(t, brackets(), "( _ )", 3, 1)
	checkComes(t, brackets(), "i _ )", 0, 3)
}

// sidesOf are the right sides of rules.
func sidesOf(rules []api.Rule) [][]int {
	var sides [][]int
	for _, r := range rules {
		sides = append(sides, r.Right)
	}
	return sides
}

func TestAnswersAreNewMemory(t *testing.T) {
	for _, g := range slices.Concat(manyGrammars()[:1000], wideGrammars()[:40], []api.Grammar{brackets(), stars(23)}) {
		n, err := normal.Of(g)
		again, _ := normal.Of(g)
		if err != nil {
			continue
		}
		sides := slices.Concat(sidesOf(n.Rules), sidesOf(again.Rules), sidesOf(g.Rules))
		sides = append(sides, normal.Starts(g, n), normal.Starts(g, n))
		if !probe.Apart(sides...) || !probe.Apart(n.Sets, again.Sets) || !probe.Apart(n.Rules, again.Rules, g.Rules) {
			t.Fatalf("answers of %v share memory", g)
		}
	}
}

// What was answered may be changed, with the room behind it, and no later answer shows it.
func TestAnswersMayBeChanged(t *testing.T) {
	for _, g := range append(manyGrammars()[:500], brackets(), stars(23)) {
		want := drawn(mustOf(t, g))
		for range 3 {
			n := mustOf(t, g)
			if drawn(n) != want {
				t.Fatalf("Of %v: %s, want %s", g, drawn(n), want)
			}
			for _, side := range sidesOf(n.Rules) {
				clear(side[:cap(side)])
			}
			clear(n.Sets[:cap(n.Sets)])
			clear(n.Rules[:cap(n.Rules)])
		}
	}
}
