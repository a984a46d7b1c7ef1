package normal

import (
	"slices"

	"dovetail/api"
	"dovetail/gram"
)

// form is a form as a value that a map takes as key: its length, and behind it its symbols, with the sets' numbers in a search. The length keeps apart a form and the same one with terminals 0 behind it.
type form [1 + api.MaxRight]int

// formOf is the form of at most api.MaxRight symbols.
func formOf(symbols []int) form {
	f := form{len(symbols)}
	copy(f[1:], symbols)
	return f
}

// symbols are those of the form, in its own memory.
func (f *form) symbols() []int { return f[1 : 1+f[0]] }

// search is for the sets that are reached, and the forms over them.
type search struct {
	// rules are those that are no renamings.
	rules []api.Rule
	above []api.Set
	// sets are those found so far: a set's number is its place here.
	sets []api.Set
	// having has, for each nonterminal, the numbers of the sets with it, as far as they are taken up.
	having [][]int
	// known has the number of the set that each form found so far comes to.
	known map[form]int
}

func newSearch(g api.Grammar) *search {
	rules := slices.DeleteFunc(slices.Clone(g.Rules), func(r api.Rule) bool {
		_, renaming := gram.Renaming(r)
		return renaming
	})
	return &search{rules: rules, above: gram.Above(g), having: make([][]int, len(g.Nonterms)), known: make(map[form]int)}
}

// full is what a search panics with at a form too many, in whatever depth it is then.
type full struct{}

// run finds all. Each set, when it is taken up, is put together with those ahead of it alone: so a form is tried just when the last one of its sets is taken up.
func (s *search) run() (err error) {
	defer func() {
		switch fault := recover(); fault {
		case nil:
		case full{}:
			err = api.ErrTooBig
		default:
			panic(fault)
		}
	}()
	for _, r := range s.rules {
		if !slices.ContainsFunc(r.Right, isNonterm) {
			s.meet(formOf(r.Right))
		}
	}
	for number := 0; number < len(s.sets); number++ {
		s.takeUp(number)
		for _, r := range s.rules {
			s.try(r.Right, number)
		}
	}
	return nil
}

func isNonterm(symbol int) bool { return symbol < 0 }

// takeUp puts a set to what places are filled with.
func (s *search) takeUp(number int) {
	for n := range s.having {
		if has(s.sets[number], n) {
			s.having[n] = append(s.having[n], number)
		}
	}
}

// try meets all forms that a right side fits and in which the newest set stands. Each choice that is begun ends in such a form, so no more are begun than the bound allows.
func (s *search) try(right []int, newest int) {
	last, ok := s.lastPlace(right, newest)
	if !ok {
		return
	}
	f := formOf(right)
	var choose func(at int, stands bool)
	choose = func(at int, stands bool) {
		if at == len(right) {
			s.meet(f)
			return
		}
		if !isNonterm(right[at]) {
			choose(at+1, stands)
			return
		}
		choices := s.having[symbolOf(right[at])]
		if at == last && !stands {
			choices = []int{newest}
		}
		for _, number := range choices {
			f.symbols()[at] = symbolOf(number)
			choose(at+1, stands || number == newest)
		}
	}
	choose(0, false)
}

// lastPlace is the last place of a right side at which the newest set can stand, and whether there is one and each other place can be filled, too.
func (s *search) lastPlace(right []int, newest int) (last int, ok bool) {
	for at, symbol := range right {
		if !isNonterm(symbol) {
			continue
		}
		choices := s.having[symbolOf(symbol)]
		if len(choices) == 0 {
			return 0, false
		}
		if choices[len(choices)-1] == newest {
			last, ok = at, true
		}
	}
	return last, ok
}

// meet makes a form that a right side fits known, and with it the set that it comes to.
func (s *search) meet(f form) {
	if _, ok := s.known[f]; ok {
		return
	}
	if len(s.known) == api.MaxRules {
		panic(full{})
	}
	s.known[f] = s.number(comes(s.rules, s.above, f.symbols(), s.sets))
}

// number is a set's number; a new set is put behind the others.
func (s *search) number(set api.Set) int {
	if !slices.Contains(s.sets, set) {
		s.sets = append(s.sets, set)
	}
	return slices.Index(s.sets, set)
}

// normal is what was found, with the sets and then the rules in their order.
func (s *search) normal() api.Normal {
	n := api.Normal{Sets: slices.Clone(s.sets), Rules: make([]api.Rule, 0, len(s.known))}
	slices.Sort(n.Sets)
	places := make([]int, len(s.sets))
	for number, set := range s.sets {
		places[number] = slices.Index(n.Sets, set)
	}
	for f, number := range s.known {
		n.Rules = append(n.Rules, api.Rule{Left: places[number], Right: placed(f.symbols(), places)})
	}
	slices.SortFunc(n.Rules, func(a, b api.Rule) int { return slices.Compare(a.Right, b.Right) })
	return n
}

// placed is a form with the places of its sets instead of their numbers.
func placed(symbols, places []int) []int {
	list := slices.Clone(symbols)
	for at, symbol := range list {
		if isNonterm(symbol) {
			list[at] = symbolOf(places[symbolOf(symbol)])
		}
	}
	return list
}
