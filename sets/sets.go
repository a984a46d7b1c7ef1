// Package sets is layer 1: see shared/doc/01-sets.md.
package sets

import (
	"cmp"
	"iter"
	"math/bits"
	"strconv"
	"strings"

	"dovetail/api"
)

// size is how many numbers a set can hold: 0 to size - 1.
const size = 64

// Of: P1.1.
func Of(numbers ...int) api.Set {
	var s api.Set
	for _, k := range numbers {
		s |= only(k)
	}
	return s
}

// Full: P1.1.
func Full(n int) api.Set {
	if n < 1 {
		return 0
	}
	if n >= size {
		return ^api.Set(0)
	}
	return 1<<n - 1
}

// Has: P1.2.
func Has(s api.Set, k int) bool { return s&only(k) != 0 }

// With: P1.2.
func With(s api.Set, k int) api.Set { return s | only(k) }

// Without: P1.2.
func Without(s api.Set, k int) api.Set { return s &^ only(k) }

// only is the set of k alone. It is empty where no set can hold k, so that such a k changes nothing in whatever it is put together with.
func only(k int) api.Set {
	if k < 0 || k >= size {
		return 0
	}
	return 1 << k
}

// Union: P1.3.
func Union(s ...api.Set) api.Set {
	var all api.Set
	for _, t := range s {
		all |= t
	}
	return all
}

// Meet: P1.3.
func Meet(s, t api.Set) api.Set { return s & t }

// Minus: P1.3.
func Minus(s, t api.Set) api.Set { return s &^ t }

// Len: P1.3.
func Len(s api.Set) int { return bits.OnesCount64(uint64(s)) }

// Least: P1.3.
func Least(s api.Set) (int, bool) {
	if s == 0 {
		return 0, false
	}
	return lowest(s), true
}

// Within: P1.3.
func Within(s, t api.Set) bool { return Minus(s, t) == 0 }

// Numbers: P1.4.
func Numbers(s api.Set) []int {
	list := make([]int, 0, Len(s))
	for k := range Each(s) {
		list = append(list, k)
	}
	return list
}

// Each: P1.4.
func Each(s api.Set) iter.Seq[int] {
	return func(yield func(int) bool) {
		// rest is the walk's own: a later walk, or one inside this one, begins with all of s again.
		for rest := s; rest != 0; rest = Without(rest, lowest(rest)) {
			if !yield(lowest(rest)) {
				return
			}
		}
	}
}

// lowest is the least number of a set that isn't empty.
func lowest(s api.Set) int { return bits.TrailingZeros64(uint64(s)) }

// Compare: P1.5.
func Compare(s, t api.Set) int { return cmp.Compare(s, t) }

// Text: P1.6.
func Text(s api.Set, name func(k int) string) string {
	if name == nil {
		name = strconv.Itoa
	}
	names := make([]string, 0, Len(s))
	for k := range Each(s) {
		names = append(names, name(k))
	}
	return "{" + strings.Join(names, " ") + "}"
}
