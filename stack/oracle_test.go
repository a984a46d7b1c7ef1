package stack_test

import (
	"math"
	"slices"
	"testing"

	"dovetail/api"
	"dovetail/probe"
	"dovetail/stack"
	"dovetail/tables"
)

// Stacks and pieces by the chapter's words

// part is an item, and of a node the rule and the parts that it was made of.
type part struct {
	api.Item
	rule  int
	parts []part
}

// tree is the tree of a node, and nothing of a terminal.
func (p part) tree() []api.Step {
	if p.Term >= 0 {
		return nil
	}
	list := []api.Step{step(p.rule, p.From, p.To)}
	for _, under := range p.parts {
		list = append(list, under.tree()...)
	}
	return list
}

// model is a stack.
type model struct {
	x                     *tables.Tables
	rules                 []api.Rule
	whole, refused, ended bool
	from, place           int
	parts                 []part
	made                  []api.Step
}

func newModel(x *tables.Tables, from int) *model {
	return &model{x: x, rules: x.Normal().Rules, from: from, place: from}
}

func wholeModel(x *tables.Tables) *model {
	m := newModel(x, 0)
	m.whole = true
	return m
}

// terminals are where the terminals stand among the parts, the end at -1.
func (m *model) terminals() []int {
	var list []int
	if m.whole {
		list = append(list, -1)
	}
	for at, p := range m.parts {
		if p.Term >= 0 {
			list = append(list, at)
		}
	}
	return list
}

func (m *model) term(at int) int {
	if at < 0 {
		return m.x.Terms()
	}
	return m.parts[at].Term
}

func (m *model) relation(a, b int) int { return m.x.Relation(m.term(a), m.term(b)) }

// handle is where the handle begins among the parts, or -1.
func (m *model) handle() int {
	list := m.terminals()
	first := len(list) - 1
	for first > 0 && m.relation(list[first-1], list[first]) == api.Equal {
		first--
	}
	if first > 0 && m.relation(list[first-1], list[first]) == api.Yields {
		return list[first-1] + 1
	}
	return -1
}

// lay lays a terminal or the end on.
func (m *model) lay(b int) {
	for {
		list := m.terminals()
		if len(list) == 0 {
			break
		}
		last := list[len(list)-1]
		if last < 0 && b == m.x.Terms() {
			break
		}
		relation := m.x.Relation(m.term(last), b)
		if relation == api.None {
			m.refused = true
			return
		}
		first := m.handle()
		if relation != api.Takes || first < 0 {
			break
		}
		if !m.reduce(first) {
			m.refused = true
			return
		}
	}
	if b < m.x.Terms() {
		m.put(part{Item: term(b, m.place)})
	}
}

func (m *model) put(p part) {
	m.parts = append(m.parts, p)
	m.place = p.To
}

func (m *model) reduce(first int) bool {
	parts := slices.Clone(m.parts[first:])
	var right []int
	for _, p := range parts {
		if p.Term >= 0 {
			right = append(right, p.Term)
		} else {
			right = append(right, -1-p.Set)
		}
	}
	for n, r := range m.rules {
		if slices.Equal(r.Right, right) {
			p := part{Item: node(r.Left, parts[0].From, parts[len(parts)-1].To), rule: n, parts: parts}
			m.parts = append(m.parts[:first:first], p)
			m.made = append(m.made, step(n, p.From, p.To))
			return true
		}
	}
	return false
}

func (m *model) shift(term int) error {
	switch {
	case m.ended, term < 0, term >= m.x.Terms():
		return api.ErrArg
	case m.refused:
		return api.ErrRefused
	case m.place == api.MaxTokens:
		return api.ErrLong
	}
	m.lay(term)
	return m.refusal()
}

func (m *model) refusal() error {
	if m.refused {
		return api.ErrRefused
	}
	return nil
}

func (m *model) take(p api.Piece) error {
	parts, err := pieceParts(m.x, p)
	switch {
	case m.ended:
		return api.ErrArg
	case err != nil:
		return err
	case p.From != m.place:
		return api.ErrForm
	}
	for _, p := range parts {
		if m.refused {
			break
		}
		if p.Term < 0 {
			m.put(p)
		} else {
			m.lay(p.Term)
		}
	}
	return m.refusal()
}

func (m *model) end() ([]api.Step, error) {
	if m.ended || !m.whole {
		return nil, api.ErrArg
	}
	m.ended = true
	if !m.refused {
		m.lay(m.x.Terms())
	}
	if m.refused || len(m.parts) != 1 || m.parts[0].Term >= 0 || !m.x.Start(m.parts[0].Set) {
		return nil, api.ErrRefused
	}
	return m.parts[0].tree(), nil
}

func (m *model) piece() (api.Piece, error) {
	if m.whole {
		return api.Piece{}, api.ErrArg
	}
	if m.refused {
		return api.Piece{}, api.ErrRefused
	}
	p := api.Piece{From: m.from, To: m.place}
	for _, of := range m.parts {
		p.Items = append(p.Items, of.Item)
		p.Steps = append(p.Steps, of.tree()...)
	}
	return p, nil
}

// pieceParts are the parts of a piece that may be; else Check's error.
func pieceParts(x *tables.Tables, p api.Piece) ([]part, error) {
	if p.To > api.MaxTokens {
		return nil, api.ErrLong
	}
	parts, ok := trees(x, p)
	if !ok || !stands(x, p) || completes(x, p.Items) {
		return nil, api.ErrForm
	}
	return parts, nil
}

// stands tells whether the items of a piece stand as they are to.
func stands(x *tables.Tables, p api.Piece) bool {
	if p.From < 0 || p.To < p.From || len(p.Items) == 0 {
		return p.From >= 0 && p.From == p.To
	}
	first, last := p.Items[0], p.Items[len(p.Items)-1]
	if first.Term < 0 || last.Term < 0 || first.From != p.From || last.To != p.To {
		return false
	}
	sets := len(x.Normal().Sets)
	for at, i := range p.Items {
		isTerm := i.Term >= 0 && i.Term < x.Terms() && i.Set == -1 && i.To == i.From+1
		isNode := i.Term == -1 && i.Set >= 0 && i.Set < sets && i.To > i.From
		if !isTerm && !isNode {
			return false
		}
		if at > 0 && (p.Items[at-1].To != i.From || isNode && p.Items[at-1].Term < 0) {
			return false
		}
	}
	return true
}

// completes tells whether there is a terminal without a relation to the next one, or a complete handle.
func completes(x *tables.Tables, items []api.Item) bool {
	var terms []int
	for _, i := range items {
		if i.Term >= 0 {
			terms = append(terms, i.Term)
		}
	}
	for first := 1; first < len(terms); first++ {
		if x.Relation(terms[first-1], terms[first]) == api.None {
			return true
		}
		if x.Relation(terms[first-1], terms[first]) != api.Yields {
			continue
		}
		last := first
		for last+1 < len(terms) && x.Relation(terms[last], terms[last+1]) == api.Equal {
			last++
		}
		if last+1 < len(terms) && x.Relation(terms[last], terms[last+1]) == api.Takes {
			return true
		}
	}
	return false
}

// trees are the parts of a piece's items, if its steps are just the trees of its nodes.
func trees(x *tables.Tables, p api.Piece) ([]part, bool) {
	rules := x.Normal().Rules
	steps := p.Steps
	var parts []part
	for _, i := range p.Items {
		of := part{Item: i}
		if i.Term < 0 {
			ok := false
			if of, steps, ok = readTree(rules, steps); !ok || of.Item != i {
				return nil, false
			}
		}
		parts = append(parts, of)
	}
	return parts, len(steps) == 0
}

// readTree is the node of the tree with which steps begin, and the steps behind it.
func readTree(rules []api.Rule, steps []api.Step) (part, []api.Step, bool) {
	if len(steps) == 0 || steps[0].Rule < 0 || steps[0].Rule >= len(rules) {
		return part{}, nil, false
	}
	first := steps[0]
	of := part{Item: node(rules[first.Rule].Left, first.From, first.To), rule: first.Rule}
	steps = steps[1:]
	at := first.From
	for _, symbol := range rules[first.Rule].Right {
		under := part{Item: api.Item{Term: symbol, Set: -1, From: at, To: at + 1}}
		if symbol < 0 {
			ok := false
			if under, steps, ok = readTree(rules, steps); !ok || under.Set != -1-symbol || under.From != at {
				return part{}, nil, false
			}
		}
		of.parts = append(of.parts, under)
		at = under.To
	}
	return of, steps, at == first.To
}

// Both at once

// two are a stack and a model that are told the same.
type two struct {
	s *stack.Stack
	m *model
}

func newTwo(x *tables.Tables, from int) two { return two{stack.New(x, from), newModel(x, from)} }

func wholeTwo(x *tables.Tables) two { return two{stack.Whole(x), wholeModel(x)} }

// check wants all that the stack tells to be what the model tells.
func (b two) check(t *testing.T) {
	t.Helper()
	got, err := b.s.Piece()
	want, wrong := b.m.piece()
	if probe.FaultOf(err) != probe.FaultOf(wrong) || !samePiece(got, want) {
		t.Fatalf("Piece: %v, %v, want %v, %v", got, err, want, wrong)
	}
	if b.s.Place() != b.m.place || !slices.Equal(b.s.Made(), b.m.made) {
		t.Fatalf("Place %d, Made %v, want %d, %v", b.s.Place(), b.s.Made(), b.m.place, b.m.made)
	}
}

func (b two) shift(t *testing.T, term int) error {
	t.Helper()
	err, want := b.s.Shift(term), b.m.shift(term)
	if probe.FaultOf(err) != probe.FaultOf(want) {
		t.Fatalf("Shift of %d at %d: %v, want %v", term, b.m.place, err, want)
	}
	return err
}

func (b two) take(t *testing.T, p api.Piece) error {
	t.Helper()
	err, want := b.s.Take(p), b.m.take(p)
	if probe.FaultOf(err) != probe.FaultOf(want) {
		t.Fatalf("Take of %v at %d: %v, want %v", p, b.m.place, err, want)
	}
	return err
}

func (b two) end(t *testing.T) ([]api.Step, error) {
	t.Helper()
	tree, err := b.s.End()
	want, wrong := b.m.end()
	if probe.FaultOf(err) != probe.FaultOf(wrong) || !slices.Equal(tree, want) {
		t.Fatalf("End: %v, %v, want %v, %v", tree, err, want, wrong)
	}
	return tree, err
}

// checkPiece wants of Check and Relations what the words say, and answers the error.
func checkPiece(t *testing.T, x *tables.Tables, p api.Piece) error {
	t.Helper()
	_, want := pieceParts(x, p)
	if err := stack.Check(x, p); probe.FaultOf(err) != probe.FaultOf(want) {
		t.Fatalf("Check of %v: %v, want %v", p, err, want)
	}
	var relations []int
	last := -1
	for _, i := range p.Items {
		if want == nil && i.Term >= 0 {
			if last >= 0 {
				relations = append(relations, x.Relation(last, i.Term))
			}
			last = i.Term
		}
	}
	if got, err := stack.Relations(x, p); probe.FaultOf(err) != probe.FaultOf(want) || !slices.Equal(got, relations) {
		t.Fatalf("Relations of %v: %v, %v, want %v, %v", p, got, err, relations, want)
	}
	return want
}

// What tests are made of

func term(term, at int) api.Item { return api.Item{Term: term, Set: -1, From: at, To: at + 1} }

func node(set, from, to int) api.Item { return api.Item{Term: -1, Set: set, From: from, To: to} }

func step(rule, from, to int) api.Step { return api.Step{Rule: rule, From: from, To: to} }

func steps(list ...api.Step) []api.Step { return list }

// piece is one of those items, which touch, or an empty one at that place.
func piece(from int, items ...api.Item) api.Piece {
	p := api.Piece{From: from, To: from, Items: items}
	if len(items) > 0 {
		p.To = items[len(items)-1].To
	}
	return p
}

// with is a piece with those steps.
func with(p api.Piece, steps ...api.Step) api.Piece {
	p.Steps = steps
	return p
}

// copied is a piece in new memory.
func copied(p api.Piece) api.Piece {
	p.Items, p.Steps = slices.Clone(p.Items), slices.Clone(p.Steps)
	return p
}

// moved is a piece in new memory at another place.
func moved(p api.Piece, by int) api.Piece {
	p = copied(p)
	p.From, p.To = p.From+by, p.To+by
	for k := range p.Items {
		p.Items[k].From += by
		p.Items[k].To += by
	}
	for k := range p.Steps {
		p.Steps[k].From += by
		p.Steps[k].To += by
	}
	return p
}

func samePiece(a, b api.Piece) bool {
	return a.From == b.From && a.To == b.To && slices.Equal(a.Items, b.Items) && slices.Equal(a.Steps, b.Steps)
}

// Pieces that look mixed

// grower makes trees of a normal form.
type grower struct {
	rules []api.Rule
	// of are each set's rules, last is one that comes to an end with those of other sets.
	of   [][]int
	last []int
}

func newGrower(x *tables.Tables) grower {
	form := x.Normal()
	g := grower{rules: form.Rules, of: make([][]int, len(form.Sets)), last: slices.Repeat([]int{-1}, len(form.Sets))}
	for k, r := range g.rules {
		g.of[r.Left] = append(g.of[r.Left], k)
	}
	for slices.Contains(g.last, -1) {
		for k, r := range g.rules {
			ends := !slices.ContainsFunc(r.Right, func(symbol int) bool { return symbol < 0 && g.last[-1-symbol] < 0 })
			if g.last[r.Left] < 0 && ends {
				g.last[r.Left] = k
			}
		}
	}
	return g
}

// tree is one of a set, from a place on, whose rules come as they will, but so many deep at most till the last ones come.
func (g grower) tree(n *probe.Numbers, set, at, deep int) []api.Step {
	rule := g.last[set]
	if deep > 0 {
		rule = g.of[set][n.Below(len(g.of[set]))]
	}
	list := steps(step(rule, at, at))
	for _, symbol := range g.rules[rule].Right {
		if symbol >= 0 {
			at++
			continue
		}
		under := g.tree(n, -1-symbol, at, deep-1)
		list = append(list, under...)
		at = under[0].To
	}
	list[0].To = at
	return list
}

// anyPiece is a piece that may be, of up to that many terminals, from 0 on: between them stand any nodes.
func anyPiece(n *probe.Numbers, x *tables.Tables, size int) api.Piece {
	var p api.Piece
	g := newGrower(x)
	last, yields := -1, false
	for range size {
		var next []int
		for of := range x.Terms() {
			if relation := x.Relation(last, of); last < 0 || relation != api.None && !(yields && relation == api.Takes) {
				next = append(next, of)
			}
		}
		if len(next) == 0 {
			break
		}
		if last >= 0 && n.Below(3) == 0 {
			set := n.Below(len(g.of))
			tree := g.tree(n, set, p.To, n.Below(4))
			p.Items = append(p.Items, node(set, p.To, tree[0].To))
			p.Steps = append(p.Steps, tree...)
			p.To = tree[0].To
		}
		of := next[n.Below(len(next))]
		yields = yields || x.Relation(last, of) == api.Yields
		p.Items = append(p.Items, term(of, p.To))
		p.To++
		last = of
	}
	return p
}

// changed is a piece with one change.
func changed(n *probe.Numbers, p api.Piece) api.Piece {
	p = copied(p)
	other := func(of *int) {
		by := []int{-2, -1, -1, 1, 1, 2, 64, math.MinInt, math.MaxInt}
		*of += by[n.Below(len(by))]
	}
	at, step := n.Below(len(p.Items)+1), n.Below(len(p.Steps)+1)
	switch kind := n.Below(16); {
	case kind == 0:
		other(&p.From)
	case kind == 1:
		other(&p.To)
	case kind == 2:
		return moved(p, n.Below(5)-1)
	case kind < 9 && at == len(p.Items) || kind >= 9 && step == len(p.Steps):
		// Behind all.
		p.Items = p.Items[:len(p.Items)-min(at, 1)]
	case kind == 3:
		other(&p.Items[at].Term)
	case kind == 4:
		other(&p.Items[at].Set)
	case kind == 5:
		other(&p.Items[at].From)
	case kind == 6:
		other(&p.Items[at].To)
	case kind == 7:
		p.Items = slices.Delete(p.Items, at, at+1)
	case kind == 8:
		k := n.Below(len(p.Items))
		p.Items[at], p.Items[k] = p.Items[k], p.Items[at]
	case kind == 9:
		other(&p.Steps[step].Rule)
	case kind == 10:
		other(&p.Steps[step].From)
	case kind == 11:
		other(&p.Steps[step].To)
	case kind == 12:
		p.Steps = slices.Delete(p.Steps, step, step+1)
	case kind == 13:
		k := n.Below(len(p.Steps))
		p.Steps[step], p.Steps[k] = p.Steps[k], p.Steps[step]
	case kind == 14:
		p.Steps = slices.Insert(p.Steps, step, p.Steps[n.Below(len(p.Steps))])
	default:
		p.Steps = p.Steps[:step]
	}
	return p
}
