package parse_test

import (
	"slices"
	"testing"

	"dovetail/api"
	"dovetail/parse"
	"dovetail/probe"
	"dovetail/tables"
)

// TestRunsAsTheWords: rows that are derived, spoiled and drawn, rows that stop early, and now and then one with a number that is no terminal's. Each is held against P17.2 to P17.4, too.
func TestRunsAsTheWords(t *testing.T) {
	var n probe.Numbers
	accepted, inside, behind, wrong := 0, 0, 0, 0
	for _, x := range probe.SomeTables() {
		for run := range 200 {
			row := probe.RowOf(&n, x, n.Below(40))
			switch run % 8 {
			case 0, 1, 2:
				row = probe.Spoiled(&n, x.Terms(), row)
			case 3:
				row = row[:n.Below(len(row)+1)]
			case 4:
				row = anyRow(&n, x, 6)
			case 5:
				if n.Below(4) == 0 {
					row[n.Below(len(row))] += (n.Below(2)*2 - 1) * x.Terms()
				}
			}
			switch fault := checkAsModel(t, x, row); {
			case fault.Which == nil:
				accepted++
			case fault.Which == api.ErrArg:
				wrong++
			case fault.Place < len(row):
				inside++
			default:
				behind++
			}
		}
	}
	if accepted < 2500 || min(inside, behind) < 1000 || wrong < 200 {
		t.Errorf("%d accepted, %d refused inside, %d at the end, %d wrong", accepted, inside, behind, wrong)
	}
}

// P2

// TestAllRows: of all short rows just those are accepted that the axiom derives.
func TestAllRows(t *testing.T) {
	accepted := 0
	for _, x := range probe.SomeTables() {
		most := 5
		switch {
		case x.Terms() > 5:
			most = 3
		case x.Terms() < 3:
			most = 9
		}
		g := x.Grammar()
		want := probe.Derived(g, most)[g.Axiom]
		for _, row := range probe.Sides(most, probe.UpTo(x.Terms())...) {
			name := ""
			for _, token := range row {
				name += g.Terms[token]
			}
			fault := checkAsModel(t, x, row)
			if (fault.Which == nil) != want.Has(name) {
				t.Fatalf("%v: %q: %v", g, name, fault)
			}
			if fault.Which == nil {
				accepted++
			}
		}
	}
	if accepted < 300 {
		t.Errorf("only %d are accepted", accepted)
	}
}

func TestRowsThatAreDerivedAreAccepted(t *testing.T) {
	var n probe.Numbers
	for _, x := range probe.SomeTables() {
		for size := range 80 {
			row := probe.RowOf(&n, x, 3*size)
			r, err := parse.Parse(x, row)
			if err != nil || !parse.Accepts(x, row) {
				t.Fatalf("%v: %v: %v", x.Grammar(), row, err)
			}
			checkWork(t, row, r)
			checkAccepted(t, x, row, r)
		}
	}
}

// P17.3, P17.4

// TestManyTokens: as many as there may be, deep and flat.
func TestManyTokens(t *testing.T) {
	const half = api.MaxTokens / 2
	cases := []struct {
		text   string
		tokens []int
		made   int
	}{
		{nest, append(slices.Repeat([]int{a}, half), slices.Repeat([]int{b}, half)...), half},
		{plus, append(slices.Repeat([]int{i, sum}, half-1), i), 2*half - 1},
		{"E : T ^ E | T; T : i", append(slices.Repeat([]int{1, 0}, half-1), 1), 2*half - 1},
		{"S : a S | a", slices.Repeat([]int{0}, api.MaxTokens), api.MaxTokens},
		{"S : S a | a", slices.Repeat([]int{0}, api.MaxTokens), api.MaxTokens},
	}
	for _, c := range cases {
		x := probe.Tables(c.text)
		r, err := parse.Parse(x, c.tokens)
		if err != nil || len(r.Made) != c.made {
			t.Fatalf("%s: %d made, %v", c.text, len(r.Made), err)
		}
		checkWork(t, c.tokens, r)
		checkAccepted(t, x, c.tokens, r)
		// One token less, the first or the last one: of the last two texts that's a row, too.
		for _, less := range [][]int{c.tokens[1:], c.tokens[:len(c.tokens)-1]} {
			r, err := parse.Parse(x, less)
			checkWork(t, less, r)
			if parse.Accepts(x, less) != (err == nil) || (err == nil) != (x.Terms() == 1) {
				t.Errorf("%s: with a token less: %v", c.text, err)
			}
		}
	}
}

// P17.5

// TestWhatIsBehindARefusalMakesNoDifference: whatever tokens stand there, few or many.
func TestWhatIsBehindARefusalMakesNoDifference(t *testing.T) {
	var n probe.Numbers
	refused := 0
	for _, x := range probe.SomeTables() {
		for range 60 {
			row := probe.Spoiled(&n, x.Terms(), probe.RowOf(&n, x, n.Below(30)))
			want, fault := modelRun(x, row)
			if fault.Which != api.ErrRefused || fault.Place == len(row) {
				continue
			}
			refused++
			ahead := row[:fault.Place+1]
			for range 5 {
				checkRun(t, x, slices.Concat(ahead, anyRow(&n, x, 20)), want, fault)
			}
			checkRun(t, x, slices.Concat(ahead, probe.RowOf(&n, x, 10)), want, fault)
			checkRun(t, x, ahead, want, fault)
		}
	}
	if refused < 1000 {
		t.Errorf("only %d are refused at a token", refused)
	}
	x := probe.Tables(nest)
	many := make([]int, api.MaxTokens)
	many[2], many[3], many[4] = b, b, b
	checkRefused(t, x, many, 4, step(1, 1, 3), step(0, 0, 4))
	many[5] = b
	checkRefused(t, x, many, 4, step(1, 1, 3), step(0, 0, 4))
}

// P17.6

// spoil overwrites a list and the room behind it.
func spoil(list []api.Step) {
	list = list[:cap(list)]
	for k := range list {
		list[k] = step(9, 9, 9)
	}
}

// TestMemory: tokens and the room behind them stay, and may be changed behind a call; answers are new each time.
func TestMemory(t *testing.T) {
	var n probe.Numbers
	for _, x := range probe.SomeTables() {
		for run := range 30 {
			row := probe.RowOf(&n, x, n.Below(30))
			if run%3 == 0 {
				row = probe.Spoiled(&n, x.Terms(), row)
			}
			want, fault := modelRun(x, row)
			room := append(slices.Clone(row), 0, x.Terms(), 0)
			before := slices.Clone(room)
			mine := room[:len(row)]
			one, _ := parse.Parse(x, mine)
			two, _ := parse.Parse(x, mine)
			parse.Accepts(x, mine)
			if !slices.Equal(room, before) {
				t.Fatalf("%v became %v", before, room)
			}
			if !probe.Apart(one.Made, one.Tree, two.Made, two.Tree) {
				t.Fatalf("answers of %v share memory", row)
			}
			clear(room)
			spoil(one.Made)
			spoil(one.Tree)
			if !sameRun(two, want) {
				t.Fatalf("%v became %v", want, two)
			}
			checkRun(t, x, row, want, fault)
		}
	}
}

// TestRunsHaveNothingToDoWithEachOther: with the same tables each begins anew, whatever the one ahead of it came to.
func TestRunsHaveNothingToDoWithEachOther(t *testing.T) {
	x := probe.Tables(nest)
	for range 3 {
		checkRefused(t, x, []int{a, a, b}, 3, step(1, 1, 3))
		checkRun(t, x, []int{a, b}, parse.Run{Shifts: 2, Made: steps(step(1, 0, 2)), Tree: steps(step(1, 0, 2))}, probe.Bare(nil))
		checkNoRun(t, x, []int{a, b, 2}, api.ErrArg)
		checkRefused(t, x, []int{b}, 0)
	}
}

// TestRunsSideBySide: several at once, with the same tables.
func TestRunsSideBySide(t *testing.T) {
	x := probe.Tables(plus)
	tokens := append(slices.Repeat([]int{i, sum}, 500), i)
	want, _ := parse.Parse(x, tokens)
	answers := make(chan parse.Run)
	for range 8 {
		go func(x *tables.Tables) {
			r, _ := parse.Parse(x, tokens)
			answers <- r
		}(x)
	}
	for range 8 {
		if r := <-answers; !sameRun(r, want) {
			t.Errorf("%d shifts, %d made, %d steps", r.Shifts, len(r.Made), len(r.Tree))
		}
	}
}
