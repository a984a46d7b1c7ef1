package probe

import (
	"slices"

	"dovetail/api"
	"dovetail/tables"
	"dovetail/useful"
)

// Rows are rows of tokens, each as the names of its terminals, which are to be of one byte.
type Rows map[string]struct{}

// Has tells whether a row is among them.
func (r Rows) Has(row string) bool {
	_, ok := r[row]
	return ok
}

// Derived are, for each nonterminal, all rows of at most that many tokens that it derives.
func Derived(g api.Grammar, most int) []Rows {
	list := make([]Rows, len(g.Nonterms))
	for n := range list {
		list[n] = make(Rows)
	}
	for grown := true; grown; {
		grown = false
		for _, r := range g.Rules {
			for row := range made(g, r.Right, list, most) {
				grown = grown || !list[r.Left].Has(row)
				list[r.Left][row] = struct{}{}
			}
		}
	}
	return list
}

// made are the rows of at most that many tokens that a right side makes of nonterminals' rows.
func made(g api.Grammar, right []int, of []Rows, most int) Rows {
	rows := Rows{"": {}}
	for _, symbol := range right {
		var ends Rows
		if symbol < 0 {
			ends = of[-1-symbol]
		} else {
			ends = Rows{g.Terms[symbol]: {}}
		}
		longer := make(Rows)
		for row := range rows {
			for end := range ends {
				if len(row)+len(end) <= most {
					longer[row+end] = struct{}{}
				}
			}
		}
		rows = longer
	}
	return rows
}

// Deriver makes rows of tokens that a grammar's axiom derives, and their trees.
type Deriver struct {
	axiom int
	rules []api.Rule
	// sizes are how many tokens each nonterminal's shortest row has. all are the rules by which it derives any row, and least those by which it derives such a one.
	sizes []int
	all   [][]int
	least [][]int
}

// NewDeriver answers false where the axiom derives no row, or long ones only. No right side of the grammar is to be empty.
func NewDeriver(g api.Grammar) (*Deriver, bool) {
	sizes, err := useful.Shortest(g)
	if err != nil {
		return nil, false
	}
	d := &Deriver{axiom: g.Axiom, rules: g.Rules, sizes: sizes, all: make([][]int, len(sizes)), least: make([][]int, len(sizes))}
	for k, r := range g.Rules {
		size, ok := d.size(r.Right)
		if !ok {
			continue
		}
		d.all[r.Left] = append(d.all[r.Left], k)
		if size == sizes[r.Left] {
			d.least[r.Left] = append(d.least[r.Left], k)
		}
	}
	_, ok := d.size([]int{-1 - g.Axiom})
	return d, ok
}

// mostTokens is how many tokens a nonterminal's shortest row may have, lest a Deriver do without it.
const mostTokens = 1000

// size is how many tokens the shortest row of a right side has, and whether a Deriver takes it.
func (d *Deriver) size(right []int) (int, bool) {
	size := 0
	for _, symbol := range right {
		switch {
		case symbol >= 0:
			size++
		case d.sizes[-1-symbol] < 0 || d.sizes[-1-symbol] > mostTokens:
			return 0, false
		default:
			size += d.sizes[-1-symbol]
		}
	}
	return size, true
}

// Row is a row of about that many tokens.
func (d *Deriver) Row(n *Numbers, size int) []int {
	_, row := d.Tree(n, size)
	return row
}

// Tree is a derivation tree of a row of about that many tokens, and the row.
func (d *Deriver) Tree(n *Numbers, size int) ([]api.Step, []int) {
	var tree []api.Step
	var row []int
	var grow func(nonterm, size int)
	grow = func(nonterm, size int) {
		at, rule := len(tree), d.draw(n, nonterm, size)
		tree = append(tree, api.Step{Rule: rule, From: len(row)})
		right := d.rules[rule].Right
		// A renaming takes something, too, lest a round of them goes on for ever.
		size -= max(terms(right), 1)
		for _, symbol := range right {
			if symbol >= 0 {
				row = append(row, symbol)
				continue
			}
			share := max(size, 0)
			if n.Below(8) == 0 {
				share = n.Below(share + 1)
			}
			size -= share
			grow(-1-symbol, share)
		}
		tree[at].To = len(row)
	}
	grow(d.axiom, size)
	return tree, row
}

// terms is how many terminals a right side has.
func terms(right []int) int {
	many := 0
	for _, symbol := range right {
		if symbol >= 0 {
			many++
		}
	}
	return many
}

// draw is a rule of a nonterminal for about that many tokens, mostly one that has a nonterminal, if there is one: or rows would be short.
func (d *Deriver) draw(n *Numbers, nonterm, size int) int {
	from := d.all[nonterm]
	if size < d.sizes[nonterm] {
		from = d.least[nonterm]
	}
	rule := 0
	for range 1 + n.Below(20) {
		rule = from[n.Below(len(from))]
		if slices.Min(d.rules[rule].Right) < 0 {
			break
		}
	}
	return rule
}

// RowOf is a row of about that many tokens which the axiom of tables' grammar derives. It is to derive some.
func RowOf(n *Numbers, t *tables.Tables, size int) []int {
	d, ok := NewDeriver(t.Grammar())
	if !ok {
		panic("no rows")
	}
	return d.Row(n, size)
}

// Spoiled is a row in new memory with a token or two less, more or others, of that many terminals.
func Spoiled(n *Numbers, terms int, row []int) []int {
	row = slices.Clone(row)
	for range 1 + n.Below(2) {
		at := n.Below(len(row) + 1)
		switch of := n.Below(terms); n.Below(3) {
		case 0:
			row = slices.Insert(row, at, of)
		case 1:
			row = slices.Delete(row, at, min(at+1, len(row)))
		default:
			row = slices.Replace(row, at, min(at+1, len(row)), of)
		}
	}
	return row
}
