package probe

import "dovetail/tables"

// Tables are those of a text whose lines are parted by ; here.
func Tables(text string) *tables.Tables {
	t, err := tables.Make(Read(text))
	if err != nil {
		panic(text + ": " + err.Error())
	}
	return t
}

// ClearTexts are texts, whose lines are parted by ; here, of grammars that have tables and of which the parts have something to tell apart.
func ClearTexts() []string {
	return []string{
		"S : a S b | a b",
		"E : E + T | T; T : i",
		"E : E + T | T; T : T * F | F; F : ( E ) | i",
		"E : T ^ E | T; T : ( E ) | i | j",
		"S : c B | a D | P b | Q d; B : b; D : d; P : a; Q : c",
		"S : A | B | A , S; A : a | ( A ) | { B }; B : b | ( B ) | { A }",
		"S : a X c | b Y c; X : x | Z; Y : y | Z; Z : z | ( X ) | [ Y ]",
		"P : P , Q | Q; Q : i = E | b P e; E : E - F | F; F : i",
	}
}

// SomeTables are of grammars that have something to tell apart, and of mixed ones.
func SomeTables() []*tables.Tables {
	var list []*tables.Tables
	more := []string{
		"S : a b c | a b c S | ( S )", "S : S a b c | a b c",
		"S : ( A ) | i; A : S b S c S | b c S | S b c",
		"S : x P y | w P z; P : Q | p Q; Q : i",
	}
	for _, text := range append(ClearTexts(), more...) {
		list = append(list, Tables(text))
	}
	return append(list, MixedTables(40)...)
}

// MixedTables are of that many grammars without a clash, whose axioms derive some rows. Terminals' names have one byte.
func MixedTables(many int) []*tables.Tables {
	var n Numbers
	var list []*tables.Tables
	for len(list) < many {
		g := Clear(&n, 1+n.Below(6), 1+n.Below(5), 5+n.Below(20), 6)
		g.Terms = Letters('a', len(g.Terms))
		if d, ok := NewDeriver(g); !ok || len(d.Row(&n, 8)) < 3 {
			continue
		}
		if t, err := tables.Make(g); err == nil {
			list = append(list, t)
		}
	}
	return list
}
