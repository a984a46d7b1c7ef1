package stack_test

import (
	"slices"
	"testing"

	"dovetail/api"
	"dovetail/probe"
	"dovetail/stack"
	"dovetail/tables"
)

// The words, on many stacks

// told is how often a call of many answered what.
type told struct{ right, refused, form, long, arg int }

func (c *told) count(err error) {
	switch probe.Which(err) {
	case nil:
		c.right++
	case api.ErrRefused:
		c.refused++
	case api.ErrForm:
		c.form++
	case api.ErrLong:
		c.long++
	case api.ErrArg:
		c.arg++
	}
}

func (c told) least() int { return min(c.right, c.refused, c.arg) }

// offered is a piece that a stack at that place might take: one that next tokens come to, or any one, now and then changed or elsewhere.
func offered(n *probe.Numbers, x *tables.Tables, place int, next []int) api.Piece {
	m := newModel(x, 0)
	for _, token := range next[:n.Below(len(next)+1)] {
		m.lay(token)
		if m.refused {
			break
		}
	}
	p, err := m.piece()
	if err != nil || n.Below(4) == 0 {
		p = anyPiece(n, x, n.Below(5))
	}
	p = moved(p, place)
	if n.Below(8) == 0 {
		p = changed(n, p)
	}
	return p
}

// TestStacksAsTheWords: whatever is called, stacks answer what the words say, from places at both ends of what places there are.
func TestStacksAsTheWords(t *testing.T) {
	var n probe.Numbers
	var shifts, takes, ends told
	for _, x := range probe.SomeTables() {
		for run := range 120 {
			row := probe.RowOf(&n, x, n.Below(30))
			if run%3 == 0 {
				row = probe.Spoiled(&n, x.Terms(), row)
			}
			s := newTwo(x, n.Below(3)*n.Below(20))
			switch run % 8 {
			case 0:
				s = newTwo(x, api.MaxTokens-n.Below(20))
			case 1, 2, 3, 4:
				s = wholeTwo(x)
			}
			runBoth(t, &n, s, row, &shifts, &takes, &ends)
		}
	}
	if shifts.least() < 500 || shifts.long < 50 || takes.least() < 100 || min(takes.form, takes.long) < 100 || ends.least() < 200 {
		t.Errorf("Shift: %v; Take: %v; End: %v", shifts, takes, ends)
	}
}

// runBoth lays a row on, by tokens and by pieces, asks for this and that, and calls End.
func runBoth(t *testing.T, n *probe.Numbers, s two, row []int, shifts, takes, ends *told) {
	t.Helper()
	from := s.m.place
	for range 2 * len(row) {
		at := s.m.place - from
		next := row[min(at, len(row)):]
		switch n.Below(10) {
		case 0, 1:
			takes.count(s.take(t, offered(n, s.m.x, s.m.place, next)))
		case 2:
			shifts.count(s.shift(t, n.Below(s.m.x.Terms()+2)-1))
		case 3:
			if n.Below(8) == 0 || len(next) == 0 {
				_, err := s.end(t)
				ends.count(err)
			}
		default:
			if len(next) > 0 {
				shifts.count(s.shift(t, next[0]))
			}
		}
		s.check(t)
		if len(next) == 0 || s.m.ended || s.m.refused {
			break
		}
	}
	for range n.Below(3) {
		_, err := s.end(t)
		ends.count(err)
		s.check(t)
	}
	shifts.count(s.shift(t, n.Below(s.m.x.Terms()+1)))
	takes.count(s.take(t, offered(n, s.m.x, s.m.place, nil)))
	s.check(t)
}

// TestPiecesOfAllRows: all short rows of terminals, on both kinds of stacks, each step of the way.
func TestPiecesOfAllRows(t *testing.T) {
	for _, x := range probe.SomeTables()[:16] {
		most := 5
		if x.Terms() > 5 {
			most = 3
		}
		for _, row := range rows(x, most) {
			s, w := newTwo(x, 2), wholeTwo(x)
			for _, token := range row {
				s.shift(t, token)
				w.shift(t, token)
			}
			s.check(t)
			w.check(t)
			w.end(t)
			w.check(t)
		}
	}
}

// rows are all rows of at most that many terminals.
func rows(x *tables.Tables, most int) [][]int { return probe.Sides(most, probe.UpTo(x.Terms())...) }

// P16.7

// checkOpen wants a piece without a complete handle, whose relations read as P16.7 says.
func checkOpen(t *testing.T, x *tables.Tables, p api.Piece) {
	t.Helper()
	if err := checkPiece(t, x, p); err != nil {
		t.Fatalf("Check of %v: %v", p, err)
	}
	relations, err := stack.Relations(x, p)
	first := slices.Index(relations, api.Yields)
	if err != nil || first >= 0 && slices.Contains(relations[first:], api.Takes) || slices.Contains(relations, api.None) {
		t.Fatalf("Relations of %v: %v, %v", p, relations, err)
	}
}

// TestPiecesOfStacksMayBe: after each terminal and each piece, whatever that was.
func TestPiecesOfStacksMayBe(t *testing.T) {
	var n probe.Numbers
	several := 0
	for _, x := range probe.SomeTables() {
		for run := range 60 {
			s := stack.New(x, n.Below(9))
			row := probe.RowOf(&n, x, n.Below(40))
			if run%3 == 0 {
				row = probe.Spoiled(&n, x.Terms(), row)
			}
			for _, token := range row[n.Below(len(row)/2+1):] {
				if n.Below(20) == 0 {
					s.Take(moved(anyPiece(&n, x, n.Below(4)), s.Place()))
				}
				s.Shift(token)
				p, err := s.Piece()
				if err != nil {
					break
				}
				checkOpen(t, x, p)
				if len(p.Items) > 3 && len(p.Steps) > 2 {
					several++
				}
			}
		}
	}
	if several < 800 {
		t.Errorf("only %d pieces of several items and steps", several)
	}
}

// checkReductions wants of that many shifts no more reductions, none of one interval twice.
func checkReductions(t *testing.T, made []api.Step, shifts int) {
	t.Helper()
	seen := make(map[[2]int]int)
	for _, s := range made {
		seen[[2]int{s.From, s.To}]++
	}
	if len(made) > shifts || len(seen) < len(made) {
		t.Fatalf("of %d shifts: %v", shifts, made)
	}
}

func TestEachReductionHasATerminal(t *testing.T) {
	var n probe.Numbers
	for _, x := range probe.SomeTables() {
		for range 60 {
			row := probe.RowOf(&n, x, n.Below(50))
			if n.Below(2) == 0 {
				row = probe.Spoiled(&n, x.Terms(), row)
			}
			s, w := stack.New(x, 0), stack.Whole(x)
			for _, token := range row {
				s.Shift(token)
				w.Shift(token)
			}
			w.End()
			checkReductions(t, s.Made(), len(row))
			checkReductions(t, w.Made(), len(row))
		}
	}
}

// What the page promises of stacks

// TestAllRowsThatAreDerived (P2): just these have a tree.
func TestAllRowsThatAreDerived(t *testing.T) {
	trees := 0
	for _, x := range probe.SomeTables() {
		most := 6
		switch {
		case x.Terms() > 5:
			most = 4
		case x.Terms() < 3:
			most = 10
		}
		g := x.Grammar()
		want := probe.Derived(g, most)[g.Axiom]
		for _, row := range rows(x, most) {
			s := stack.Whole(x)
			name := ""
			for _, token := range row {
				s.Shift(token)
				name += g.Terms[token]
			}
			tree, err := s.End()
			if (err == nil) != want.Has(name) {
				t.Fatalf("%v: End behind %s: %v", g, name, err)
			}
			if err == nil {
				trees++
				checkDerives(t, x, tree, row)
			}
		}
	}
	if trees < 500 {
		t.Errorf("only %d trees", trees)
	}
}

// checkDerives wants a tree of the normal form of a set where that starts, with those tokens.
func checkDerives(t *testing.T, x *tables.Tables, tree []api.Step, tokens []int) {
	t.Helper()
	top, rest, ok := readTree(x.Normal().Rules, tree)
	if !ok || len(rest) > 0 || top.From != 0 || top.To != len(tokens) || !x.Start(top.Set) || !slices.Equal(leaves(nil, top), tokens) {
		t.Fatalf("the tree %v of %v", tree, tokens)
	}
}

// leaves are the terminals ahead, and those of a part.
func leaves(ahead []int, p part) []int {
	if p.Term >= 0 {
		return append(ahead, p.Term)
	}
	for _, under := range p.parts {
		ahead = leaves(ahead, under)
	}
	return ahead
}

func TestRowsThatAreDerivedHaveATree(t *testing.T) {
	var n probe.Numbers
	for _, x := range probe.SomeTables() {
		for size := range 60 {
			row := probe.RowOf(&n, x, size)
			s := came(t, stack.Whole(x), row...)
			tree, err := s.End()
			if err != nil || s.Place() != len(row) {
				t.Fatalf("%v: End behind %v: %v", x.Grammar(), row, err)
			}
			checkDerives(t, x, tree, row)
			made := s.Made()
			checkReductions(t, made, len(row))
			if len(made) != len(tree) || !slices.Equal(sorted(made), sorted(tree)) {
				t.Fatalf("Made %v, the tree %v", made, tree)
			}
		}
	}
}

// sorted is steps in an order of their own.
func sorted(list []api.Step) []api.Step {
	list = slices.Clone(list)
	slices.SortFunc(list, func(a, b api.Step) int {
		return slices.Compare([]int{a.From, a.To, a.Rule}, []int{b.From, b.To, b.Rule})
	})
	return list
}

// P16.8

// way goes over tokens in a way of its own.
type way struct {
	n      *probe.Numbers
	x      *tables.Tables
	tokens []int
	// made is what all its stacks made but the one that it is to go with, refused whether one of them was.
	made    []api.Step
	refused bool
}

// goes takes a stack to a place, by tokens and by pieces that others come to, so many deep.
func (w *way) goes(s *stack.Stack, to, deep int) {
	for s.Place() < to && !w.refused {
		at := s.Place()
		if deep == 0 || w.n.Below(2) == 0 {
			w.refused = s.Shift(w.tokens[at]) != nil
			continue
		}
		inner := stack.New(w.x, at)
		w.goes(inner, at+w.n.Below(to-at+1), deep-1)
		w.made = append(w.made, inner.Made()...)
		p, err := inner.Piece()
		w.refused = err != nil || s.Take(p) != nil
	}
}

// straight is what all tokens come to, laid on one by one.
func straight(x *tables.Tables, s *stack.Stack, tokens []int) *stack.Stack {
	for _, token := range tokens {
		s.Shift(token)
	}
	return s
}

// checkWay holds another way over tokens against the straight one: it has the same piece or is refused, and comes to the same tree.
func checkWay(t *testing.T, n *probe.Numbers, x *tables.Tables, tokens []int) (tree bool) {
	t.Helper()
	want, wrong := straight(x, stack.New(x, 0), tokens).Piece()
	w := &way{n: n, x: x, tokens: tokens}
	s := stack.New(x, 0)
	w.goes(s, len(tokens), 3)
	got, err := s.Piece()
	w.refused = w.refused || err != nil
	if !w.refused && wrong == nil && !samePiece(got, want) {
		t.Fatalf("%v over %v: %v, want %v", x.Grammar(), tokens, got, want)
	}
	end := straight(x, stack.Whole(x), tokens)
	all, none := end.End()
	if wrong != nil && none == nil || w.refused && none == nil {
		t.Fatalf("%v over %v: a tree, and refused elsewhere: %v, %v", x.Grammar(), tokens, wrong, err)
	}
	if wrong == nil {
		checkEnd(t, x, want, all, none)
	}
	if !w.refused {
		checkEnd(t, x, got, all, none)
	}
	v := &way{n: n, x: x, tokens: tokens}
	s = stack.Whole(x)
	v.goes(s, len(tokens), 3)
	var also []api.Step
	if err = api.ErrRefused; !v.refused {
		also, err = s.End()
	}
	if (err != nil) != (none != nil) || err == nil && !slices.Equal(also, all) {
		t.Fatalf("%v over %v: %v, %v, want %v, %v", x.Grammar(), tokens, also, err, all, none)
	}
	if none == nil && !slices.Equal(sorted(append(v.made, s.Made()...)), sorted(end.Made())) {
		t.Fatalf("%v over %v: made are %v and %v, want %v", x.Grammar(), tokens, v.made, s.Made(), end.Made())
	}
	return none == nil
}

// checkEnd wants of a whole stack that takes a piece the tree, or none.
func checkEnd(t *testing.T, x *tables.Tables, p api.Piece, want []api.Step, none error) {
	t.Helper()
	s := stack.Whole(x)
	wrong := s.Take(p)
	tree, err := s.End()
	if (wrong != nil || err != nil) != (none != nil) || err == nil && !slices.Equal(tree, want) {
		t.Fatalf("%v: %v ends as %v, %v, %v, want %v, %v", x.Grammar(), p, tree, wrong, err, want, none)
	}
}

func TestNoOrder(t *testing.T) {
	var n probe.Numbers
	trees, others := 0, 0
	for _, x := range probe.SomeTables() {
		for run := range 150 {
			row := probe.RowOf(&n, x, n.Below(40))
			if run%3 == 0 {
				row = probe.Spoiled(&n, x.Terms(), row)
			}
			if checkWay(t, &n, x, row) {
				trees++
			} else {
				others++
			}
		}
	}
	if trees < 4000 || others < 1500 {
		t.Errorf("%d trees, %d others", trees, others)
	}
}

// TestAllCuts: short rows, cut in all ways; the pieces are taken from the left on, and joined from the right on.
func TestAllCuts(t *testing.T) {
	for _, x := range probe.SomeTables()[:14] {
		most := 6
		if x.Terms() > 2 {
			most = 4
		}
		for _, row := range rows(x, most) {
			want, wrong := straight(x, stack.New(x, 0), row).Piece()
			end := straight(x, stack.Whole(x), row)
			tree, none := end.End()
			for mask := range 1 << max(len(row)-1, 0) {
				list, ok := cut(x, row, mask)
				if !ok && none == nil {
					t.Fatalf("%v: %v, cut by %b, is refused", x.Grammar(), row, mask)
				}
				if !ok {
					continue
				}
				for _, join := range []func(*tables.Tables, []api.Piece) (api.Piece, error){joinLeft, joinRight} {
					got, err := join(x, list)
					if err == nil && wrong == nil && !samePiece(got, want) {
						t.Fatalf("%v: %v, cut by %b: %v, want %v", x.Grammar(), row, mask, got, want)
					}
					if err == nil {
						checkEnd(t, x, got, tree, none)
					} else if none == nil {
						t.Fatalf("%v: %v, cut by %b: %v", x.Grammar(), row, mask, err)
					}
				}
			}
		}
	}
}

// cut is the pieces of a row that is cut behind each token whose bit is 1, and whether none is refused.
func cut(x *tables.Tables, row []int, mask int) ([]api.Piece, bool) {
	var list []api.Piece
	s := stack.New(x, 0)
	for at, token := range row {
		if s.Shift(token) != nil {
			return nil, false
		}
		if mask>>at&1 == 1 || at == len(row)-1 {
			p, _ := s.Piece()
			list = append(list, p)
			s = stack.New(x, at+1)
		}
	}
	return list, true
}

func joinLeft(x *tables.Tables, list []api.Piece) (api.Piece, error) {
	s := stack.New(x, 0)
	for _, p := range list {
		if err := s.Take(p); err != nil {
			return api.Piece{}, err
		}
	}
	return s.Piece()
}

func joinRight(x *tables.Tables, list []api.Piece) (api.Piece, error) {
	var all api.Piece
	for at, p := range slices.Backward(list) {
		s := stack.New(x, p.From)
		if err := s.Take(p); err != nil {
			return api.Piece{}, err
		}
		if at < len(list)-1 {
			if err := s.Take(all); err != nil {
				return api.Piece{}, err
			}
		}
		all, _ = s.Piece()
	}
	return all, nil
}

// Many tokens

// TestManyTokens: as many as there may be, deep and flat, and of all of them nothing is done twice.
func TestManyTokens(t *testing.T) {
	const half = api.MaxTokens / 2
	cases := []struct {
		text   string
		tokens []int
		made   int
	}{
		{nest, append(slices.Repeat([]int{a}, half), slices.Repeat([]int{b}, half)...), half},
		{plus, append(slices.Repeat([]int{i, sum}, half-1), i), 2*half - 1},
		{"E : T ^ E | T; T : i", append(slices.Repeat([]int{1, 0}, half-1), 1), 2*half - 1},
		{"S : a S | a", slices.Repeat([]int{0}, api.MaxTokens), api.MaxTokens},
		{"S : S a | a", slices.Repeat([]int{0}, api.MaxTokens), api.MaxTokens},
	}
	for _, c := range cases {
		x := probe.Tables(c.text)
		s := came(t, stack.Whole(x), c.tokens...)
		tree, err := s.End()
		if err != nil || len(tree) != c.made || len(s.Made()) != c.made {
			t.Fatalf("%s: %d steps, %d made, %v", c.text, len(tree), len(s.Made()), err)
		}
		checkDerives(t, x, tree, c.tokens)
		p, err := straight(x, stack.New(x, 0), c.tokens).Piece()
		if err != nil || stack.Check(x, p) != nil {
			t.Fatalf("%s: %v", c.text, err)
		}
		checkEnd(t, x, p, tree, nil)
		// Of three pieces.
		n := len(c.tokens)
		var list []api.Piece
		for k, from := range []int{0, n / 3, n / 2} {
			to := []int{n / 3, n / 2, n}[k]
			p, err := straight(x, stack.New(x, from), c.tokens[from:to]).Piece()
			if err != nil {
				t.Fatalf("%s: %v", c.text, err)
			}
			list = append(list, p)
		}
		for _, join := range []func(*tables.Tables, []api.Piece) (api.Piece, error){joinLeft, joinRight} {
			if got, err := join(x, list); err != nil || !samePiece(got, p) {
				t.Errorf("%s: joined it is another one, %v", c.text, err)
			}
		}
		if len(c.tokens) == api.MaxTokens {
			checkFault(t, came(t, stack.Whole(x), c.tokens...).Shift(c.tokens[0]), api.ErrLong)
		}
	}
}

// TestManyEqualTerminals: a handle may have more terminals than any right side has; then no rule has it.
func TestManyEqualTerminals(t *testing.T) {
	x := probe.Tables("S : ( A ); A : a a a")
	const open, shut, a = 0, 1, 2
	if x.Relation(open, a) != api.Yields || x.Relation(a, a) != api.Equal || x.Relation(a, shut) != api.Takes {
		t.Fatal("the relations are others")
	}
	for size := 1; size < 70; size++ {
		s := came(t, stack.New(x, 0), append([]int{open}, slices.Repeat([]int{a}, size)...)...)
		if err := s.Shift(shut); (err == nil) != (size == 3) {
			t.Errorf("( and ) with %d between: %v", size, err)
		}
	}
	many := slices.Repeat([]int{a}, api.MaxTokens-2)
	checkMade(t, refused(t, stack.New(x, 0), append(append([]int{open}, many...), shut)...), len(many)+1)
	// Without a left side they are no handle.
	s := came(t, stack.New(x, 1), append(many, shut)...)
	p, err := s.Piece()
	if err != nil || len(p.Items) != len(many)+1 || len(p.Steps) > 0 {
		t.Fatalf("%d items, %v", len(p.Items), err)
	}
	if relations, err := stack.Relations(x, p); err != nil || len(relations) != len(many) || slices.Index(relations, api.Takes) != len(many)-1 || slices.Min(relations) != api.Equal {
		t.Errorf("%d relations, %v", len(relations), err)
	}
	s = came(t, stack.New(x, 0), open)
	checkFault(t, s.Take(p), api.ErrRefused)
	checkMade(t, s, len(many)+1)
}

// P16.9

// roomy is a piece with spare room behind its lists, which holds what a call that went too far would take for more.
func roomy(p api.Piece) api.Piece {
	p.Items = append(slices.Clone(p.Items), term(0, p.To), term(0, p.To+1))[:len(p.Items)]
	p.Steps = append(slices.Clone(p.Steps), step(0, p.To, p.To+1), step(1, p.To, p.To+1))[:len(p.Steps)]
	return p
}

// room is a piece with all the room behind its lists as parts of them.
func room(p api.Piece) api.Piece {
	p.Items, p.Steps = p.Items[:cap(p.Items)], p.Steps[:cap(p.Steps)]
	return p
}

// spoil overwrites a piece, the room behind its lists too.
func spoil(p api.Piece) {
	p = room(p)
	for k := range p.Items {
		p.Items[k] = term(9, 9)
	}
	for k := range p.Steps {
		p.Steps[k] = step(9, 9, 9)
	}
}

func TestWhatIsHandedInStays(t *testing.T) {
	var n probe.Numbers
	for _, x := range probe.SomeTables() {
		for range 60 {
			p := anyPiece(&n, x, n.Below(8))
			if n.Below(3) == 0 {
				p = changed(&n, p)
			}
			p = roomy(p)
			before := copied(room(p))
			stack.Check(x, p)
			stack.Relations(x, p)
			for _, s := range []*stack.Stack{stack.New(x, 0), stack.Whole(x)} {
				s.Take(p)
				s.Shift(0)
				s.Take(moved(p, p.To+1))
				s.Piece()
				s.End()
				s.Made()
			}
			if !samePiece(before, room(p)) {
				t.Fatalf("%v became %v", before, room(p))
			}
		}
	}
}

// TestNothingIsKept: a piece that was taken may be changed, and the stack is as it was.
func TestNothingIsKept(t *testing.T) {
	var n probe.Numbers
	for _, x := range probe.SomeTables() {
		for range 40 {
			s, w := newTwo(x, 0), wholeTwo(x)
			row := probe.RowOf(&n, x, 20)
			for s.m.place < len(row) && !s.m.refused && !w.m.refused {
				p := offered(&n, x, s.m.place, row[s.m.place:])
				for _, b := range []two{s, w} {
					mine := roomy(p)
					b.take(t, mine)
					spoil(mine)
					b.check(t)
				}
				if s.m.place < len(row) {
					s.shift(t, row[s.m.place])
					w.shift(t, row[w.m.place])
				}
				s.check(t)
				w.check(t)
			}
			w.end(t)
			w.check(t)
		}
	}
}

func TestAnswersAreNewMemory(t *testing.T) {
	var n probe.Numbers
	for _, x := range probe.SomeTables() {
		row := probe.RowOf(&n, x, 40)
		s, w := newTwo(x, 0), wholeTwo(x)
		for at, token := range row {
			s.shift(t, token)
			w.shift(t, token)
			first, _ := s.s.Piece()
			second, _ := s.s.Piece()
			one, two, three := s.s.Made(), s.s.Made(), w.s.Made()
			relations, _ := stack.Relations(x, first)
			again, _ := stack.Relations(x, first)
			if !probe.Apart(first.Items, second.Items) || !probe.Apart(first.Steps, second.Steps, one, two, three, w.s.Made()) || !probe.Apart(relations, again) {
				t.Fatalf("answers behind %v share memory", row[:at+1])
			}
			spoil(first)
			spoil(api.Piece{Steps: one})
			spoil(api.Piece{Steps: three})
			if !slices.Equal(two, s.m.made) {
				t.Fatalf("Made became %v, want %v", two, s.m.made)
			}
			s.check(t)
			w.check(t)
		}
		tree, err := w.end(t)
		if err != nil || !probe.Apart(tree, w.s.Made(), w.s.Made()) {
			t.Fatalf("the tree and Made share memory, %v", err)
		}
		spoil(api.Piece{Steps: tree})
		w.check(t)
	}
}

// TestStacksHaveNothingToDoWithEachOther: those of the same tables that take the same pieces.
func TestStacksHaveNothingToDoWithEachOther(t *testing.T) {
	x := probe.Tables(nest)
	p := with(piece(0, term(a, 0), node(0, 1, 3), term(b, 3)), step(1, 1, 3))
	var list []*stack.Stack
	for range 3 {
		list = append(list, took(t, stack.New(x, 0), p))
	}
	came(t, list[0], b, b)
	refused(t, list[1], a)
	checkStack(t, list[2], p)
	checkStack(t, list[0], with(piece(0, term(a, 0), node(0, 1, 3), term(b, 3), term(b, 4), term(b, 5)), step(1, 1, 3)))
}

// P0.3

// TestRefusedCallsChangeNothing: between tokens stand calls that are refused, and the stack is as without them.
func TestRefusedCallsChangeNothing(t *testing.T) {
	var n probe.Numbers
	for _, x := range probe.SomeTables() {
		for range 20 {
			row := probe.RowOf(&n, x, 30)
			s, want := stack.New(x, 5), newModel(x, 5)
			for _, token := range row {
				checkFault(t, s.Shift(x.Terms()), api.ErrArg)
				checkNoTree(t, s, api.ErrArg)
				checkFault(t, s.Take(piece(s.Place()+1)), api.ErrForm)
				checkFault(t, s.Take(piece(s.Place(), term(x.Terms(), s.Place()))), api.ErrForm)
				checkFault(t, s.Take(api.Piece{From: s.Place(), To: api.MaxTokens + 1}), api.ErrLong)
				checkFault(t, s.Shift(token), want.shift(token))
				two{s, want}.check(t)
			}
		}
	}
}

// TestErrorsTellNothingElse: no place, no rule, no pair, and an error that was answered is none that a later answer shares.
func TestErrorsTellNothingElse(t *testing.T) {
	x := probe.Tables(nest)
	s := refused(t, stack.New(x, 0), b, a)
	for _, err := range []error{s.Shift(a), s.Take(piece(1)), stack.Whole(x).Shift(b)} {
		checkFault(t, err, api.ErrRefused)
	}
}
