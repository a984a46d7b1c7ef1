package tables

import (
	"slices"

	"dovetail/api"
	"dovetail/trie"
)

// finder finds the rules of a normal form by their right sides. Tables embed it, and it embeds no trie: so what is promoted stays inside the package, and no call of the trie's becomes one of the tables'.
type finder struct {
	normal api.Normal
	rights *trie.Trie
}

func newFinder(n api.Normal) (finder, error) {
	rights, err := trie.Build(n.Rules)
	if err != nil {
		return finder{}, err
	}
	return finder{normal: n, rights: rights}, nil
}

// find is the rule with that right side, and whether there is one.
func (f *finder) find(right []int) (int, bool) { return f.rights.Find(right) }

// left is the set that is a rule's Left, and whether there is such a rule.
func (f *finder) left(rule int) (int, bool) {
	if rule < 0 || rule >= len(f.normal.Rules) {
		return 0, false
	}
	return f.normal.Rules[rule].Left, true
}

// copied is the normal form in new memory.
func (f *finder) copied() api.Normal {
	rules := slices.Clone(f.normal.Rules)
	for k, r := range rules {
		rules[k].Right = slices.Clone(r.Right)
	}
	return api.Normal{Sets: slices.Clone(f.normal.Sets), Rules: rules}
}
