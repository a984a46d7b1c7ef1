package useful_test

import (
	"math"
	"slices"
	"strconv"
	"strings"
	"testing"

	"dovetail/api"
	"dovetail/gram"
	"dovetail/probe"
	"dovetail/useful"
)

// tooLong is what Shortest tells of each row of more than MaxTokens tokens.
const tooLong = 65537

func checkShortest(t *testing.T, g api.Grammar, want ...int) {
	t.Helper()
	if got, err := useful.Shortest(g); err != nil || !slices.Equal(got, want) {
		t.Errorf("Shortest of %v: %v, %v, want %v", g.Rules, got, err, want)
	}
}

// checkWord wants a row, told by the terminals' names.
func checkWord(t *testing.T, g api.Grammar, n int, want string) {
	t.Helper()
	row, err := useful.Word(g, n)
	if got := spelt(g, row); err != nil || got != want {
		t.Errorf("Word %d of %v: %.99q, %v, want %.99q", n, g.Rules, got, err, want)
	}
}

func checkNoWord(t *testing.T, g api.Grammar, n int, want error) {
	t.Helper()
	if row, err := useful.Word(g, n); probe.Which(err) != want || len(row) > 0 {
		t.Errorf("Word %d of %v: %v, %v, want %v", n, g.Rules, row, err, want)
	}
}

// ranked is the grammar of a text with its terminals in the order of their names.
func ranked(text string) api.Grammar {
	g := probe.Read(text)
	names := slices.Sorted(slices.Values(g.Terms))
	for _, r := range g.Rules {
		for at, symbol := range r.Right {
			if symbol >= 0 {
				r.Right[at] = slices.Index(names, g.Terms[symbol])
			}
		}
	}
	g.Terms = names
	return g
}

// doubled is a grammar of n nonterminals, each but the last twice the next one, the last a.
func doubled(n int) api.Grammar {
	g := api.Grammar{Terms: []string{"a"}, Nonterms: probe.Names("N", n)}
	for k := range n - 1 {
		g.Rules = append(g.Rules, probe.Rule(k, -2-k, -2-k))
	}
	g.Rules = append(g.Rules, probe.Rule(n-1, 0))
	return g
}

// sized is a grammar whose last nonterminal has a row of just that many tokens, below 2^18: it is made of doubled ones.
func sized(tokens int) (g api.Grammar, last int) {
	g = doubled(18)
	last = len(g.Nonterms)
	r := probe.Rule(last)
	for k := range 18 {
		if tokens>>k&1 == 1 {
			r.Right = append(r.Right, k-18)
		}
	}
	g.Nonterms = append(g.Nonterms, "L")
	g.Rules = append(g.Rules, r)
	return g, last
}

// P7.3

func TestShortest(t *testing.T) {
	cases := []struct {
		text string
		want []int
	}{
		{"S : a", []int{1}},
		{"S :", []int{0}},
		{"S : a b c | a | b a", []int{1}},
		{"S : S", []int{-1}},
		{"S : S S | S | a b", []int{2}},
		{"S : S S | S S S | | a", []int{0}},
		{"S : A; A : B; B : S", []int{-1, -1, -1}},
		{"S : A; A : B; B : S | a b c", []int{3, 3, 3}},
		{"S : A A A; A : B B a; B : b b b | c A", []int{21, 7, 3}},
		{"S : A A A; A : B B a | x; B : b b b | c A", []int{3, 1, 2}},
		{"S : a B | C C C; B : B; C : C C | a", []int{3, -1, 1}},
		{"S : a B; B : B; C : S | c S | c", []int{-1, -1, 1}},
		{"S : E E a E; E :", []int{1, 0}},
		{"S : a a a a a; A : S | B a a; B : A | a", []int{5, 3, 1}},
	}
	for _, c := range cases {
		checkShortest(t, probe.Read(c.text), c.want...)
	}
	checkShortest(t, api.Grammar{Nonterms: []string{"S", "A"}}, -1, -1)
	checkShortest(t, api.Grammar{Nonterms: []string{"S", "A"}, Rules: []api.Rule{probe.Rule(1), probe.Rule(1, -1)}}, -1, 0)
}

// What the axiom is doesn't matter, nor whether a nonterminal is reached.
func TestRowsOfAllNonterminals(t *testing.T) {
	g := example()
	for axiom := range g.Nonterms {
		g.Axiom = axiom
		checkShortest(t, g, 1, 1, -1, 1)
		checkWord(t, g, 0, "b")
		checkWord(t, g, 1, "a")
		checkNoWord(t, g, 2, api.ErrNone)
		checkWord(t, g, 3, "a")
	}
}

func TestRowsAtTheBound(t *testing.T) {
	for _, tokens := range []int{0, 1, 2, 1000, 65534, 65535, 65536, 65537, 65538, 131071, 131072, 131073, 1<<18 - 1} {
		g, last := sized(tokens)
		lengths, err := useful.Shortest(g)
		if err != nil || lengths[last] != min(tokens, tooLong) {
			t.Errorf("%d tokens: %v, %v", tokens, lengths, err)
		}
		if tokens > api.MaxTokens {
			checkNoWord(t, g, last, api.ErrLong)
			continue
		}
		checkWord(t, g, last, strings.Repeat("a", tokens))
	}
}

// Rows that would be too long by one rule, and are not by another.
func TestRowsBesideTooLongOnes(t *testing.T) {
	g, last := sized(65537)
	g.Terms = append(g.Terms, "b")
	g.Nonterms = append(g.Nonterms, "M", "N")
	g.Rules = append(g.Rules, probe.Rule(last+1, -1-last, -1-last), probe.Rule(last+1, 1, 0, 1), probe.Rule(last+2, -1), probe.Rule(last+2, -2-last, 1))
	lengths, err := useful.Shortest(g)
	if err != nil || lengths[last] != tooLong || lengths[last+1] != 3 || lengths[last+2] != 4 {
		t.Errorf("Shortest: %v, %v", lengths, err)
	}
	checkNoWord(t, g, last, api.ErrLong)
	checkWord(t, g, last+1, "bab")
	checkWord(t, g, last+2, "babb")
	g.Rules = append(g.Rules, probe.Rule(last, -3-last, 0))
	if lengths, err := useful.Shortest(g); err != nil || lengths[last] != 5 {
		t.Errorf("Shortest: %v, %v", lengths, err)
	}
	checkWord(t, g, last, "babba")
}

// A row beside one of 2^56 tokens, which no memory holds: it isn't made.
func TestWordBesideTheLongest(t *testing.T) {
	g := doubled(57)
	g.Terms = append(g.Terms, "b")
	g.Nonterms = append(g.Nonterms, "S")
	g.Rules = append(g.Rules, probe.Rule(57, -1), probe.Rule(57, 1, -1), probe.Rule(57, 1, 1, 1))
	checkWord(t, g, 57, "bbb")
	checkWord(t, g, 56, "a")
	checkNoWord(t, g, 0, api.ErrLong)
}

// Lengths grow 32 times with each nonterminal: none of the sums may run over.
func TestRowsOfTheGreatestLengths(t *testing.T) {
	g := api.Grammar{Terms: []string{"a"}, Nonterms: probe.Names("N", api.MaxSymbols-1)}
	want := slices.Repeat([]int{tooLong}, len(g.Nonterms))
	for k := range g.Nonterms {
		g.Rules = append(g.Rules, probe.Rule(k, slices.Repeat([]int{-2 - k}, api.MaxRight)...))
	}
	last := len(g.Nonterms) - 1
	g.Rules[last] = probe.Rule(last, 0)
	copy(want[last-3:], []int{32768, 1024, 32, 1})
	checkShortest(t, g, want...)
	for n, tokens := range want {
		if tokens == tooLong {
			checkNoWord(t, g, n, api.ErrLong)
			continue
		}
		checkWord(t, g, n, strings.Repeat("a", tokens))
	}
	g.Rules[last].Right = nil
	checkShortest(t, g, make([]int, len(g.Nonterms))...)
	checkWord(t, g, 0, "")
	g.Rules = g.Rules[:last]
	checkShortest(t, g, slices.Repeat([]int{-1}, len(g.Nonterms))...)
	checkNoWord(t, g, 0, api.ErrNone)
}

// P7.4

func TestWord(t *testing.T) {
	cases := []struct{ text, want string }{
		{"S : a", "a"},
		{"S : | a", ""},
		{"S : b | a a", "b"},
		{"S : b a | a b | a c", "ab"},
		{"S : c | b | a", "a"},
		{"S : A b | b A; A : a", "ab"},
		{"S : A b | b A; A : c", "bc"},
		{"S : A c | b A; A : a | b", "ac"},
		{"S : A B; A : b a | a b; B : b | c", "abb"},
		{"S : A E | E B; A : b; B : a; E : ", "a"},
		{"S : c | A; A : b | B; B : S | a", "a"},
		{"S : A; A : B | b; B : S | c", "b"},
		{"S : E S E | b | A; A : A E | E S | a; E :", "a"},
		{"S : S S S | A S | a b | A A; A : b | a b", "ab"},
		{"S : A A | b a; A : b | A A | S", "ba"},
		{"S : x S | B a; B : B; A : a", "-"},
		{"S : A e; A : b b | B; B : a C; C : c", "ace"},
		{"S : A d | B; A : a b c; B : a b b e | C; C : a b b d | B", "abbd"},
	}
	for _, c := range cases {
		if c.want == "-" {
			checkNoWord(t, ranked(c.text), 0, api.ErrNone)
			continue
		}
		checkWord(t, ranked(c.text), 0, c.want)
	}
}

// The least row is told by terminals' numbers, not by their names.
func TestWordGoesByNumbers(t *testing.T) {
	checkWord(t, probe.Read("S : z | a"), 0, "z")
	checkWord(t, probe.Read("S : z y x | z x y | z z z"), 0, "zzz")
	g := api.Grammar{Terms: probe.Names("t", 59), Nonterms: []string{"S"}}
	for n := range g.Terms {
		g.Rules = append(g.Rules, probe.Rule(0, 58-n, 10), probe.Rule(0, 58-n, 9))
	}
	checkWord(t, g, 0, "t0t9")
}

func TestWordOfNoNonterminal(t *testing.T) {
	for _, g := range []api.Grammar{example(), probe.Read("S : S; A : A; B : B; C : C"), doubled(4), {Nonterms: probe.Names("N", 4)}} {
		for _, n := range []int{-1, -2, 4, 5, 60, 63, 64, math.MinInt, math.MaxInt} {
			checkNoWord(t, g, n, api.ErrArg)
		}
	}
}

// P7.6

// checkByRows holds lengths and rows of a grammar against all its rows of up to most tokens.
func checkByRows(t *testing.T, g api.Grammar, most int) {
	t.Helper()
	able := rooted(g.Rules)
	lengths, err := useful.Shortest(g)
	if err != nil || len(lengths) != len(g.Nonterms) {
		t.Fatalf("Shortest of %v: %v, %v", g.Rules, lengths, err)
	}
	for n, rows := range probe.Derived(g, most) {
		row, ok := least(rows)
		switch {
		case ok:
			checkWord(t, g, n, row)
			if lengths[n] != len(row) {
				t.Errorf("Shortest of %v: %v, want %d of %d", g.Rules, lengths, len(row), n)
			}
		case able>>n&1 == 0:
			checkNoWord(t, g, n, api.ErrNone)
			if lengths[n] != -1 {
				t.Errorf("Shortest of %v: %v, want -1 of %d", g.Rules, lengths, n)
			}
		case lengths[n] <= most:
			t.Errorf("Shortest of %v: %v, want above %d of %d", g.Rules, lengths, most, n)
		}
	}
}

func TestRowsOfSmallGrammars(t *testing.T) {
	for _, g := range smallGrammars() {
		checkByRows(t, g, 4)
	}
}

func TestRowsOfManyGrammars(t *testing.T) {
	for _, g := range manyGrammars() {
		checkByRows(t, g, 3)
	}
}

// replaced is a right side with the rows of its nonterminals.
func replaced(right []int, rows [][]int) []int {
	var list []int
	for _, symbol := range right {
		part := []int{symbol}
		if symbol < 0 {
			part = rows[-1-symbol]
		}
		list = append(list, part...)
	}
	return list
}

// wordsOf are all rows that Word tells; of nonterminals that have none, nil.
func wordsOf(t *testing.T, g api.Grammar, lengths []int) [][]int {
	words := make([][]int, len(lengths))
	for n, tokens := range lengths {
		var err error
		words[n], err = useful.Word(g, n)
		want := error(nil)
		switch tokens {
		case -1:
			want, tokens = api.ErrNone, 0
		case tooLong:
			want, tokens = api.ErrLong, 0
		}
		if probe.Which(err) != want || len(words[n]) != tokens {
			t.Errorf("Word %d of %v: %d tokens, %v", n, g.Rules, len(words[n]), err)
		}
	}
	return words
}

// checkByRules holds lengths and rows of a grammar against its rules. They are right, if no rule makes a shorter or lesser one of them, and each is at the root of a tree of rules that make just them.
func checkByRules(t *testing.T, g api.Grammar) {
	t.Helper()
	able := rooted(g.Rules)
	lengths, err := useful.Shortest(g)
	if err != nil {
		t.Fatal(err)
	}
	words := wordsOf(t, g, lengths)
	var asLong, alike []api.Rule
	for _, r := range keep(g.Rules, func(r api.Rule) bool { return nontermsOf(r.Right)&^able == 0 }) {
		sum := 0
		for _, symbol := range r.Right {
			if symbol >= 0 {
				sum++
			} else {
				sum += lengths[-1-symbol]
			}
		}
		sum = min(sum, tooLong)
		if sum < lengths[r.Left] {
			t.Errorf("%v makes a row of %d tokens in %v, Shortest tells %v", r, sum, g.Rules, lengths)
		}
		if sum != lengths[r.Left] {
			continue
		}
		asLong = append(asLong, r)
		if sum == tooLong {
			continue
		}
		switch row := replaced(r.Right, words); slices.Compare(row, words[r.Left]) {
		case 0:
			alike = append(alike, r)
		case -1:
			t.Errorf("%v makes a lesser row in %v", r, g.Rules)
		}
	}
	made, spelt := rooted(asLong), rooted(alike)
	for n, tokens := range lengths {
		if (tokens >= 0) != (able>>n&1 == 1) || (tokens >= 0) != (made>>n&1 == 1) || (tokens >= 0 && tokens != tooLong) != (spelt>>n&1 == 1) {
			t.Errorf("no tree of %v makes the row of %d: %v", g.Rules, n, lengths)
		}
	}
}

func TestRowsByRules(t *testing.T) {
	for _, g := range append(manyGrammars(), smallGrammars()...) {
		checkByRules(t, g)
	}
}

func TestRowsOfTallGrammars(t *testing.T) {
	var short, long, tooMany, none int
	for _, g := range tallGrammars() {
		checkByRules(t, g)
		lengths, _ := useful.Shortest(g)
		for _, tokens := range lengths {
			switch {
			case tokens == -1:
				none++
			case tokens == tooLong:
				tooMany++
			case tokens > 100:
				long++
			default:
				short++
			}
		}
	}
	if min(short, long, tooMany, none) < 100 {
		t.Errorf("%d short rows, %d long ones, %d too long ones, %d nonterminals without any", short, long, tooMany, none)
	}
}

// ring is a grammar of many nonterminals that come to each other, each with a row of 65536 tokens of its own, which differ in their last tokens only; the last one's is the least.
func ring(size int) api.Grammar {
	b := gram.NewBuilder()
	for n := range size {
		b.Nonterm("ring" + strconv.Itoa(n))
	}
	part := func(name string, right ...int) int {
		n := b.Nonterm(name)
		b.Rule(n, right...)
		return -1 - n
	}
	times := func(n, symbol int) []int { return slices.Repeat([]int{symbol}, n) }
	of16 := part("16", times(16, b.Term("a"))...)
	of256 := part("256", times(16, of16)...)
	of4096 := part("4096", times(16, of256)...)
	of240 := part("240", times(15, of16)...)
	of65280 := part("65280", append(times(15, of4096), times(15, of256)...)...)
	b.Term("b")
	for n := range size {
		right := []int{of65280, of240}
		for bit := range 16 {
			right = append(right, (size-n)>>(15-bit)&1)
		}
		b.Rule(n, right...)
		b.Rule(n, -1-(n+1)%size)
	}
	g, err := b.Grammar()
	if err != nil {
		panic(err)
	}
	return g
}

func TestRowsOfARing(t *testing.T) {
	g := ring(53)
	lengths, err := useful.Shortest(g)
	if err != nil || lengths[0] != 65536 || lengths[52] != 65536 {
		t.Fatalf("Shortest: %v, %v", lengths, err)
	}
	want := strings.Repeat("a", 65535) + "b"
	checkWord(t, g, 0, want)
	checkWord(t, g, 1, want)
	checkWord(t, g, 52, want)
}
