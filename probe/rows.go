package probe

import (
	"slices"

	"dovetail/api"
	"dovetail/tables"
	"dovetail/useful"
)

// Rows are rows of tokens, each as the names of its terminals, which are to be of one byte.
type Rows map[string]struct{}

// Has tells whether a row is among them.
func (r Rows) Has(row string) bool {
	_, ok := r[row]
	return ok
}

// Derived are, for each nonterminal, all rows of at most that many tokens that it derives.
func Derived(g api.Grammar, most int) []Rows {
	list := make([]Rows, len(g.Nonterms))
	for n := range list {
		list[n] = make(Rows)
	}
	for grown := true; grown; {
		grown = false
		for _, r := range g.Rules {
			for row := range made(g, r.Right, list, most) {
				grown = grown || !list[r.Left].Has(row)
				list[r.Left][row] = struct{}{}
			}
		}
	}
	return list
}

// made are the rows of at most that many tokens that a right side makes of nonterminals' rows.
func made(g api.Grammar, right []int, of []Rows, most int) Rows {
	rows := Rows{"": {}}
	for _, symbol := range right {
		var ends Rows
		if symbol < 0 {
			ends = of[-1-symbol]
		} else {
			ends = Rows{g.Terms[symbol]: {}}
		}
		longer := make(Rows)
		for row := range rows {
			for end := range ends {
				if len(row)+len(end) <= most {
					longer[row+end] = struct{}{}
				}
			}
		}
		rows = longer
	}
	return rows
}

// Deriver makes rows of tokens that a grammar's axiom derives.
type Deriver struct {
	axiom int
	// sizes are how many tokens each nonterminal's shortest row has. rights are the right sides by which it derives any row, and least those by which it derives such a one.
	sizes  []int
	rights [][][]int
	least  [][][]int
}

// NewDeriver answers false where the axiom derives no row, or long ones only. The grammar is to be in operator form.
func NewDeriver(g api.Grammar) (*Deriver, bool) {
	sizes, err := useful.Shortest(g)
	if err != nil {
		return nil, false
	}
	d := &Deriver{axiom: g.Axiom, sizes: sizes, rights: make([][][]int, len(sizes)), least: make([][][]int, len(sizes))}
	for _, r := range g.Rules {
		size, ok := d.size(r.Right)
		if !ok {
			continue
		}
		d.rights[r.Left] = append(d.rights[r.Left], r.Right)
		if size == sizes[r.Left] {
			d.least[r.Left] = append(d.least[r.Left], r.Right)
		}
	}
	_, ok := d.size([]int{-1 - g.Axiom})
	return d, ok
}

// mostTokens is how many tokens a nonterminal's shortest row may have, lest a Deriver do without it.
const mostTokens = 1000

// size is how many tokens the shortest row of a right side has, and whether a Deriver takes it.
func (d *Deriver) size(right []int) (int, bool) {
	size := 0
	for _, symbol := range right {
		switch {
		case symbol >= 0:
			size++
		case d.sizes[-1-symbol] < 0 || d.sizes[-1-symbol] > mostTokens:
			return 0, false
		default:
			size += d.sizes[-1-symbol]
		}
	}
	return size, true
}

// Row is a row of about that many tokens.
func (d *Deriver) Row(n *Numbers, size int) []int { return d.row(n, d.axiom, size, nil) }

// row is the tokens ahead with a row of a nonterminal behind them.
func (d *Deriver) row(n *Numbers, nonterm, size int, ahead []int) []int {
	rights := d.rights[nonterm]
	if size < d.sizes[nonterm] {
		rights = d.least[nonterm]
	}
	right := draw(n, rights)
	terms := 0
	for _, symbol := range right {
		if symbol >= 0 {
			terms++
		}
	}
	// A renaming takes something, too, lest a round of them goes on for ever.
	size -= max(terms, 1)
	for _, symbol := range right {
		if symbol >= 0 {
			ahead = append(ahead, symbol)
			continue
		}
		share := max(size, 0)
		if n.Below(8) == 0 {
			share = n.Below(share + 1)
		}
		size -= share
		ahead = d.row(n, -1-symbol, share, ahead)
	}
	return ahead
}

// draw is one of those right sides, mostly one that has a nonterminal, if there is one: or rows would be short.
func draw(n *Numbers, rights [][]int) []int {
	var right []int
	for range 1 + n.Below(20) {
		right = rights[n.Below(len(rights))]
		if slices.Min(right) < 0 {
			break
		}
	}
	return right
}

// RowOf is a row of about that many tokens which the axiom of tables' grammar derives. It is to derive some.
func RowOf(n *Numbers, t *tables.Tables, size int) []int {
	d, ok := NewDeriver(t.Grammar())
	if !ok {
		panic("no rows")
	}
	return d.Row(n, size)
}

// Spoiled is a row in new memory with a token or two less, more or others, of that many terminals.
func Spoiled(n *Numbers, terms int, row []int) []int {
	row = slices.Clone(row)
	for range 1 + n.Below(2) {
		at := n.Below(len(row) + 1)
		switch of := n.Below(terms); n.Below(3) {
		case 0:
			row = slices.Insert(row, at, of)
		case 1:
			row = slices.Delete(row, at, min(at+1, len(row)))
		default:
			row = slices.Replace(row, at, min(at+1, len(row)), of)
		}
	}
	return row
}
