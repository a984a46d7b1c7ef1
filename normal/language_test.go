package normal_test

import (
	"testing"

	"dovetail/api"
	"dovetail/matrix"
	"dovetail/normal"
	"dovetail/probe"
)

// P10.6

// rowsOfSets are the rows of at most that many tokens that each set of a normal form derives, and in how many sets' rows each row is.
func rowsOfSets(g api.Grammar, n api.Normal, most int) (rows []probe.Rows, sets map[string]int) {
	rows = probe.Derived(asGrammar(g, n), most)
	sets = map[string]int{}
	for _, of := range rows {
		for row := range of {
			sets[row]++
		}
	}
	return rows, sets
}

// checkLanguage holds the rows of a grammar's nonterminals against those of the sets that have them. It answers how many rows there are, and in how many sets' rows at most one of them is.
func checkLanguage(t *testing.T, g api.Grammar, most int) (size, widest int) {
	t.Helper()
	n, err := normal.Of(g)
	if err != nil {
		return 0, 0
	}
	rows, sets := rowsOfSets(g, n, most)
	for nonterm, want := range probe.Derived(g, most) {
		got := probe.Rows{}
		for k, of := range rows {
			if n.Sets[k]>>nonterm&1 == 0 {
				continue
			}
			for row := range of {
				got[row] = struct{}{}
				if !want.Has(row) {
					t.Errorf("%v: a set with %d derives %q", g, nonterm, row)
				}
			}
		}
		if len(got) != len(want) {
			t.Errorf("%v: %d derives %d rows, the sets with it %d", g, nonterm, len(want), len(got))
		}
		size += len(want)
	}
	for _, times := range sets {
		widest = max(widest, times)
	}
	return size, widest
}

// clashes tells whether the matrix of a grammar has a clash.
func clashes(t *testing.T, g api.Grammar) bool {
	t.Helper()
	m, err := matrix.Of(g)
	if err != nil {
		t.Fatal(err)
	}
	_, ok := m.Clash()
	return ok
}

// checkLanguages wants of grammars the same rows, and of those without a clash each row of one set at most.
func checkLanguages(t *testing.T, list []api.Grammar, most func(g api.Grammar) int) (size, single, several int) {
	t.Helper()
	for _, g := range list {
		rows, widest := checkLanguage(t, g, most(g))
		size += rows
		switch {
		case !clashes(t, g) && rows > 0:
			single++
			if widest > 1 {
				t.Errorf("%v has no clash, and a row of %d sets", g, widest)
			}
		case widest > 1:
			several++
		}
	}
	return size, single, several
}

func TestLanguageOfManyGrammars(t *testing.T) {
	size, single, several := checkLanguages(t, manyGrammars()[:2500], func(g api.Grammar) int { return 7 - len(g.Terms) })
	if size < 20000 || single < 200 || several < 50 {
		t.Errorf("only %d rows; %d grammars without a clash, %d with a row of several sets", size, single, several)
	}
}

func TestLanguageOfSmallGrammars(t *testing.T) {
	size, single, _ := checkLanguages(t, smallGrammars(), func(api.Grammar) int { return 6 })
	if size < 10000 || single < 500 {
		t.Errorf("only %d rows; %d grammars without a clash", size, single)
	}
}

// TestLanguageWithoutClash: grammars of which the parts have something to tell apart.
func TestLanguageWithoutClash(t *testing.T) {
	var list []api.Grammar
	for _, text := range probe.ClearTexts() {
		list = append(list, probe.Read(text))
	}
	size, single, _ := checkLanguages(t, list, func(api.Grammar) int { return 9 })
	if size < 1000 || single != len(list) {
		t.Errorf("%d rows, %d grammars without a clash", size, single)
	}
}
