package stack

import (
	"cmp"
	"errors"
	"slices"

	"dovetail/api"
)

// noTerm and noSet stand in an item for the terminal of a node and for the set of a terminal.
const (
	noTerm = -1
	noSet  = -1
)

func isNode(i api.Item) bool { return i.Term == noTerm }

// symbolOf is the symbol of the set at that place, in right sides of a normal form.
func symbolOf(set int) int { return -1 - set }

// end is the end, as a terminal.
func (s *Stack) end() int { return s.tables.Terms() }

// lay lays a terminal or the end on. A refusal closes the stack.
func (s *Stack) lay(b int) error {
	err := s.tryLay(b)
	if errors.Is(err, api.ErrRefused) {
		s.closed = err
	}
	return err
}

func (s *Stack) tryLay(b int) error {
	for {
		_, a, ok := s.terminal(len(s.items))
		// The end has no relation to itself.
		if !ok || a == s.end() && b == a {
			s.putTerm(b)
			return nil
		}
		switch s.tables.Relation(a, b) {
		case api.None:
			return api.ErrRefused
		case api.Takes:
			if first, ok := s.handle(); ok {
				if err := s.reduce(first); err != nil {
					return err
				}
				continue
			}
			fallthrough
		default:
			s.putTerm(b)
			return nil
		}
	}
}

// putTerm puts a terminal behind the items. The end is no item.
func (s *Stack) putTerm(term int) {
	if term != s.end() {
		s.put(api.Item{Term: term, Set: noSet, From: s.place, To: s.place + 1})
	}
}

func (s *Stack) put(i api.Item) {
	s.items = append(s.items, i)
	s.place = i.To
}

// terminal is the last terminal of the stack ahead of that place among the items, its own place there first: that of the end is -1.
func (s *Stack) terminal(ahead int) (at, term int, ok bool) {
	for at = ahead - 1; at >= 0; at-- {
		if i := s.items[at]; !isNode(i) {
			return at, i.Term, true
		}
	}
	return -1, s.end(), s.whole
}

// handle is where the handle begins among the items, and whether there is one. Where there is one, its items are reduced; where there is none, the last terminal Takes the one that is laid on, and no later search comes past these two: so no item is searched through twice.
func (s *Stack) handle() (int, bool) {
	at, b, _ := s.terminal(len(s.items))
	for {
		ahead, a, ok := s.terminal(at)
		if !ok {
			return 0, false
		}
		switch s.tables.Relation(a, b) {
		case api.Yields:
			return ahead + 1, true
		case api.Equal:
			at, b = ahead, a
		default:
			return 0, false
		}
	}
}

// reduce puts a node in the place of the items from that one on.
func (s *Stack) reduce(first int) error {
	rule, ok := s.tables.Find(symbols(s.items[first:]))
	if !ok {
		return api.ErrRefused
	}
	set, _ := s.tables.Left(rule)
	step := api.Step{Rule: rule, From: s.items[first].From, To: s.place}
	s.made = append(s.made, step)
	s.items = s.items[:first]
	s.put(api.Item{Term: noTerm, Set: set, From: step.From, To: step.To})
	return nil
}

// symbols are items as a right side of the normal form.
func symbols(items []api.Item) []int {
	list := make([]int, len(items))
	for k, i := range items {
		list[k] = i.Term
		if isNode(i) {
			list[k] = symbolOf(i.Set)
		}
	}
	return list
}

// trees are the trees of the nodes among the items, one behind the other.
func (s *Stack) trees() []api.Step {
	list := slices.Concat(s.taken, s.made)
	slices.SortFunc(list, inPreorder)
	return list
}

// inPreorder tells which of two steps is ahead. No two of a normal form's trees have one interval, since each right side has a terminal: so the places tell it.
func inPreorder(a, b api.Step) int {
	return cmp.Or(cmp.Compare(a.From, b.From), cmp.Compare(b.To, a.To))
}
