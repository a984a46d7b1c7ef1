package probe

import "dovetail/api"

// Rows are rows of tokens, each as the names of its terminals, which are to be of one byte.
type Rows map[string]struct{}

// Has tells whether a row is among them.
func (r Rows) Has(row string) bool {
	_, ok := r[row]
	return ok
}

// Derived are, for each nonterminal, all rows of at most that many tokens that it derives.
func Derived(g api.Grammar, most int) []Rows {
	list := make([]Rows, len(g.Nonterms))
	for n := range list {
		list[n] = make(Rows)
	}
	for grown := true; grown; {
		grown = false
		for _, r := range g.Rules {
			for row := range made(g, r.Right, list, most) {
				grown = grown || !list[r.Left].Has(row)
				list[r.Left][row] = struct{}{}
			}
		}
	}
	return list
}

// made are the rows of at most that many tokens that a right side makes of nonterminals' rows.
func made(g api.Grammar, right []int, of []Rows, most int) Rows {
	rows := Rows{"": {}}
	for _, symbol := range right {
		var ends Rows
		if symbol < 0 {
			ends = of[-1-symbol]
		} else {
			ends = Rows{g.Terms[symbol]: {}}
		}
		longer := make(Rows)
		for row := range rows {
			for end := range ends {
				if len(row)+len(end) <= most {
					longer[row+end] = struct{}{}
				}
			}
		}
		rows = longer
	}
	return rows
}
