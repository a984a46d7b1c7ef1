package sets_test

import (
	"math"
	"slices"
	"strconv"
	"testing"

	"dovetail/api"
	"dovetail/sets"
)

const all = ^api.Set(0)

// outside are numbers that no set can hold.
var outside = []int{-1, -2, -63, -64, -65, 64, 65, 127, 128, 256, 1 << 32, math.MinInt, math.MinInt + 1, math.MaxInt, math.MaxInt - 63}

// someSets are the empty set, the full one, all sets of one number and of all but one, all sets of 0 to 3, and some mixed ones.
func someSets() []api.Set {
	list := []api.Set{0, all, 0x8000000000000001, 0x5555555555555555, 0xaaaaaaaaaaaaaaaa, 0x00000000ffffffff, 0xffffffff00000000}
	for k := range 64 {
		list = append(list, 1<<k, all&^(1<<k), 1<<k-1)
	}
	for s := range api.Set(16) {
		list = append(list, s)
	}
	mixed := uint64(1)
	for range 40 {
		mixed = mixed*6364136223846793005 + 1442695040888963407
		list = append(list, api.Set(mixed), api.Set(mixed&(mixed>>7)))
	}
	return list
}

// bitsOf tells a set's numbers straight from the bits, as api.Set is defined.
func bitsOf(s api.Set) []int {
	var list []int
	for k := range 64 {
		if s>>k&1 == 1 {
			list = append(list, k)
		}
	}
	return list
}

func eachOf(s api.Set) []int {
	var list []int
	for k := range sets.Each(s) {
		list = append(list, k)
	}
	return list
}

// P1.1

func TestOf(t *testing.T) {
	cases := []struct {
		numbers []int
		want    api.Set
	}{
		{nil, 0},
		{[]int{}, 0},
		{[]int{0}, 1},
		{[]int{63}, 1 << 63},
		{[]int{3, 1, 3, 64, -1}, 10},
		{[]int{5, 4, 5, 5}, 48},
		{[]int{64, 0, -64, 63, 128}, 1<<63 | 1},
		{outside, 0},
	}
	for _, c := range cases {
		if got := sets.Of(c.numbers...); got != c.want {
			t.Errorf("Of(%v): %#x, want %#x", c.numbers, got, c.want)
		}
	}
	for k := range 64 {
		if got := sets.Of(k); got != 1<<k {
			t.Errorf("Of(%d): %#x", k, got)
		}
	}
	for _, k := range outside {
		if got := sets.Of(2, k, 7); got != 1<<2|1<<7 {
			t.Errorf("Of(2, %d, 7): %#x", k, got)
		}
	}
}

func TestFull(t *testing.T) {
	want := api.Set(0)
	for n := range 65 {
		if got := sets.Full(n); got != want {
			t.Errorf("Full(%d): %#x, want %#x", n, got, want)
		}
		want = want<<1 | 1
	}
	for _, n := range []int{-1, -5, -63, -64, -65, math.MinInt} {
		if got := sets.Full(n); got != 0 {
			t.Errorf("Full(%d): %#x, want the empty set", n, got)
		}
	}
	for _, n := range []int{64, 65, 99, 128, 1 << 32, math.MaxInt} {
		if got := sets.Full(n); got != all {
			t.Errorf("Full(%d): %#x, want all 64", n, got)
		}
	}
}

// P1.2

func TestHasWithWithout(t *testing.T) {
	for _, s := range someSets() {
		for k := range 64 {
			bit := api.Set(1) << k
			if got := sets.Has(s, k); got != (s&bit == bit) {
				t.Errorf("Has(%#x, %d): %v", s, k, got)
			}
			if got := sets.With(s, k); got != s|bit {
				t.Errorf("With(%#x, %d): %#x", s, k, got)
			}
			if got := sets.Without(s, k); got != s&^bit {
				t.Errorf("Without(%#x, %d): %#x", s, k, got)
			}
		}
	}
}

func TestHasWithWithoutOfNoNumberOfSets(t *testing.T) {
	for _, s := range someSets() {
		for _, k := range outside {
			if sets.Has(s, k) {
				t.Errorf("Has(%#x, %d)", s, k)
			}
			if got := sets.With(s, k); got != s {
				t.Errorf("With(%#x, %d): %#x", s, k, got)
			}
			if got := sets.Without(s, k); got != s {
				t.Errorf("Without(%#x, %d): %#x", s, k, got)
			}
		}
	}
}

// P1.3

func TestUnion(t *testing.T) {
	cases := []struct {
		list []api.Set
		want api.Set
	}{
		{nil, 0},
		{[]api.Set{}, 0},
		{[]api.Set{0}, 0},
		{[]api.Set{6}, 6},
		{[]api.Set{2, 4}, 6},
		{[]api.Set{3, 6, 12}, 15},
		{[]api.Set{1 << 63, 0, 1, 1}, 1<<63 | 1},
		{[]api.Set{all, 5}, all},
	}
	for _, c := range cases {
		if got := sets.Union(c.list...); got != c.want {
			t.Errorf("Union(%v): %#x, want %#x", c.list, got, c.want)
		}
	}
}

func TestMeetMinusWithin(t *testing.T) {
	cases := []struct {
		s, t, meet, minus api.Set
		within            bool
	}{
		{0, 0, 0, 0, true},
		{0, 6, 0, 0, true},
		{6, 0, 0, 6, false},
		{6, 12, 4, 2, false},
		{12, 6, 4, 8, false},
		{2, 6, 2, 0, true},
		{6, 2, 2, 4, false},
		{6, 6, 6, 0, true},
		{1 << 63, all, 1 << 63, 0, true},
		{all, 1 << 63, 1 << 63, 1<<63 - 1, false},
	}
	for _, c := range cases {
		if got := sets.Meet(c.s, c.t); got != c.meet {
			t.Errorf("Meet(%#x, %#x): %#x, want %#x", c.s, c.t, got, c.meet)
		}
		if got := sets.Minus(c.s, c.t); got != c.minus {
			t.Errorf("Minus(%#x, %#x): %#x, want %#x", c.s, c.t, got, c.minus)
		}
		if got := sets.Within(c.s, c.t); got != c.within {
			t.Errorf("Within(%#x, %#x): %v", c.s, c.t, got)
		}
	}
}

func TestLenLeast(t *testing.T) {
	for _, s := range someSets() {
		numbers := bitsOf(s)
		if got := sets.Len(s); got != len(numbers) {
			t.Errorf("Len(%#x): %d, want %d", s, got, len(numbers))
		}
		wantLeast, wantOK := 0, false
		if len(numbers) > 0 {
			wantLeast, wantOK = numbers[0], true
		}
		if k, ok := sets.Least(s); k != wantLeast || ok != wantOK {
			t.Errorf("Least(%#x): %d %v, want %d %v", s, k, ok, wantLeast, wantOK)
		}
	}
	if k, ok := sets.Least(0); k != 0 || ok {
		t.Errorf("Least of the empty set: %d %v", k, ok)
	}
	if k, ok := sets.Least(1); k != 0 || !ok {
		t.Errorf("Least of the set of 0: %d %v", k, ok)
	}
}

// P1.4

func TestNumbersAndEach(t *testing.T) {
	for _, s := range someSets() {
		want := bitsOf(s)
		if got := sets.Numbers(s); !slices.Equal(got, want) {
			t.Errorf("Numbers(%#x): %v, want %v", s, got, want)
		}
		if got := eachOf(s); !slices.Equal(got, want) {
			t.Errorf("Each(%#x): %v, want %v", s, got, want)
		}
	}
	if got := sets.Numbers(0); len(got) != 0 {
		t.Errorf("Numbers of the empty set: %v", got)
	}
}

func TestEachOfNoneCallsNothing(t *testing.T) {
	for k := range sets.Each(0) {
		t.Errorf("Each of the empty set: %d", k)
	}
}

func TestEachLeftEarlyAndGoneOverAgain(t *testing.T) {
	want := []int{0, 5, 17, 63}
	walk := sets.Each(sets.Of(want...))
	for stop := range want {
		var got []int
		for k := range walk {
			got = append(got, k)
			if len(got) == stop+1 {
				break
			}
		}
		if !slices.Equal(got, want[:stop+1]) {
			t.Errorf("left after %d: %v", stop+1, got)
		}
	}
	for range 2 {
		if got := slices.Collect(walk); !slices.Equal(got, want) {
			t.Errorf("gone over again: %v", got)
		}
	}
}

func TestEachStopsAsksNoMore(t *testing.T) {
	calls := 0
	sets.Each(all)(func(int) bool {
		calls++
		return false
	})
	if calls != 1 {
		t.Errorf("asked %d times after it was left", calls)
	}
}

func TestEachInsideItself(t *testing.T) {
	walk := sets.Each(sets.Of(1, 4))
	var got [][2]int
	for a := range walk {
		for b := range walk {
			got = append(got, [2]int{a, b})
		}
	}
	if !slices.Equal(got, [][2]int{{1, 1}, {1, 4}, {4, 1}, {4, 4}}) {
		t.Errorf("one walk inside the other: %v", got)
	}
}

// P1.5

func TestCompare(t *testing.T) {
	cases := []struct {
		s, t api.Set
		want int
	}{
		{0, 0, 0},
		{0, 1, -1},
		{1, 0, 1},
		{32, 7, 1},
		{7, 32, -1},
		{6, 6, 0},
		{all, all, 0},
		{1 << 63, 1<<63 - 1, 1}, // as numbers without a sign
		{1, 1 << 63, -1},
		{all, 0, 1},
		{all - 1, all, -1},
	}
	for _, c := range cases {
		if got := sets.Compare(c.s, c.t); got != c.want {
			t.Errorf("Compare(%#x, %#x): %d, want %d", c.s, c.t, got, c.want)
		}
	}
}

// P1.6

func TestText(t *testing.T) {
	letter := func(k int) string { return string(rune('a' + k)) }
	cases := []struct {
		s    api.Set
		name func(int) string
		want string
	}{
		{0, nil, "{}"},
		{0, letter, "{}"},
		{5, nil, "{0 2}"},
		{5, letter, "{a c}"},
		{1, nil, "{0}"},
		{2, letter, "{b}"},
		{1<<63 | 1<<10 | 1<<9, nil, "{9 10 63}"},
		{7, func(int) string { return "" }, "{  }"},
		{3, func(k int) string { return "{ " + strconv.Itoa(-k) + "}" }, "{{ 0} { -1}}"},
		{6, func(int) string { return "\x00\xff" }, "{\x00\xff \x00\xff}"},
	}
	for _, c := range cases {
		if got := sets.Text(c.s, c.name); got != c.want {
			t.Errorf("Text(%#x): %q, want %q", c.s, got, c.want)
		}
	}
}

func TestTextOfAll(t *testing.T) {
	want := "{0"
	for k := 1; k < 64; k++ {
		want += " " + strconv.Itoa(k)
	}
	if got := sets.Text(all, nil); got != want+"}" {
		t.Errorf("Text of all: %q", got)
	}
}

func TestTextAsksOnceForEachNumberRising(t *testing.T) {
	var asked []int
	sets.Text(sets.Of(40, 2, 63), func(k int) string {
		asked = append(asked, k)
		return "x"
	})
	if !slices.Equal(asked, []int{2, 40, 63}) {
		t.Errorf("asked for %v", asked)
	}
}

func TestTextHandsOnTheNamesPanic(t *testing.T) {
	defer func() {
		if r := recover(); r != "mine" {
			t.Errorf("recovered %v", r)
		}
	}()
	sets.Text(1, func(int) string { panic("mine") })
	t.Error("the name function's panic was swallowed")
}

// P1.7

func TestAsSets(t *testing.T) {
	list := someSets()
	for _, s := range list {
		if got := sets.Of(sets.Numbers(s)...); got != s {
			t.Errorf("Of(Numbers(%#x)): %#x", s, got)
		}
		for _, u := range list {
			checkAsSets(t, s, u)
		}
	}
}

func checkAsSets(t *testing.T, s, u api.Set) {
	union, meet, minus := sets.Union(s, u), sets.Meet(s, u), sets.Minus(s, u)
	for k := range 64 {
		inS, inU := sets.Has(s, k), sets.Has(u, k)
		if sets.Has(union, k) != (inS || inU) || sets.Has(meet, k) != (inS && inU) || sets.Has(minus, k) != (inS && !inU) {
			t.Errorf("%#x and %#x differ from sets at %d", s, u, k)
		}
	}
	if sets.Len(union)+sets.Len(meet) != sets.Len(s)+sets.Len(u) {
		t.Errorf("Len of Union and Meet of %#x and %#x", s, u)
	}
	if sets.Union(meet, minus) != s || sets.Meet(meet, minus) != 0 {
		t.Errorf("Meet and Minus don't part %#x by %#x", s, u)
	}
	within := sets.Within(s, u)
	if within != (union == u) || within != (minus == 0) {
		t.Errorf("Within(%#x, %#x): %v", s, u, within)
	}
}

// P1.8

func TestInOrder(t *testing.T) {
	list := someSets()
	for _, s := range list {
		numbers := sets.Numbers(s)
		for i := 1; i < len(numbers); i++ {
			if numbers[i-1] >= numbers[i] {
				t.Errorf("Numbers(%#x) don't rise: %v", s, numbers)
			}
		}
		if k, ok := sets.Least(s); ok != (len(numbers) > 0) || ok && k != numbers[0] {
			t.Errorf("Least(%#x) isn't the first of %v", s, numbers)
		}
		for _, u := range list {
			if got, want := sets.Compare(s, u), byGreatestUnlike(s, u); got != want {
				t.Errorf("Compare(%#x, %#x): %d, want %d", s, u, got, want)
			}
		}
	}
}

func byGreatestUnlike(s, u api.Set) int {
	for k := 63; k >= 0; k-- {
		if inS := sets.Has(s, k); inS != sets.Has(u, k) {
			if inS {
				return 1
			}
			return -1
		}
	}
	return 0
}

// P1.9

func TestOfLeavesWhatIsHandedIn(t *testing.T) {
	room := []int{3, 1, 3, 64, -1, 9, 8}
	before := slices.Clone(room)
	s := sets.Of(room[:5]...)
	if !slices.Equal(room, before) {
		t.Errorf("Of changed its list, or the room behind it: %v", room)
	}
	room[0] = 50
	if s != 10 || !slices.Equal(sets.Numbers(s), []int{1, 3}) {
		t.Error("Of kept its list")
	}
}

func TestUnionLeavesWhatIsHandedIn(t *testing.T) {
	room := []api.Set{4, 0, 1, 99, 98}
	before := slices.Clone(room)
	s := sets.Union(room[:3]...)
	if !slices.Equal(room, before) {
		t.Errorf("Union changed its list, or the room behind it: %v", room)
	}
	room[0] = 50
	if s != 5 {
		t.Error("Union kept its list")
	}
}

func TestNumbersIsNewMemory(t *testing.T) {
	for _, s := range someSets() {
		want := bitsOf(s)
		first, second := sets.Numbers(s), sets.Numbers(s)
		room := first[:cap(first)]
		for i := range room {
			room[i] = -7
		}
		if !slices.Equal(second, want) || !slices.Equal(sets.Numbers(s), want) {
			t.Errorf("lists of Numbers(%#x) share memory", s)
		}
		longer, other := append(second, 1000), append(sets.Numbers(s), 2000)
		if longer[len(want)] != 1000 || other[len(want)] != 2000 {
			t.Errorf("lists of Numbers(%#x) share the room behind them", s)
		}
	}
}

func TestTextKeepsNoName(t *testing.T) {
	sets.Text(5, func(int) string { return "kept" })
	if got := sets.Text(5, nil); got != "{0 2}" {
		t.Errorf("Text without a name after one with: %q", got)
	}
}

// TestExamples is the table of chapter 1.
func TestExamples(t *testing.T) {
	s := sets.Of(3, 1, 3, 64, -1)
	least, ok := sets.Least(s)
	noLeast, none := sets.Least(0)
	checks := []struct {
		call string
		good bool
	}{
		{"Of, Numbers", slices.Equal(sets.Numbers(s), []int{1, 3})},
		{"Of, Len", sets.Len(s) == 2},
		{"Of, Least", least == 1 && ok},
		{"Full(3)", sets.Full(3) == 7},
		{"Full(0)", sets.Full(0) == 0},
		{"Full(64)", sets.Full(64) == 1<<64-1},
		{"Full(99)", sets.Full(99) == 1<<64-1},
		{"Has 63", sets.Has(sets.Of(63), 63)},
		{"Has -1", !sets.Has(sets.Of(63), -1)},
		{"With 64", sets.With(0, 64) == 0},
		{"Without", sets.Without(sets.Of(1), 1) == 0},
		{"Union", sets.Union(sets.Of(1), sets.Of(2)) == sets.Of(1, 2)},
		{"Meet", sets.Meet(sets.Of(1, 2), sets.Of(2, 3)) == sets.Of(2)},
		{"Minus", sets.Minus(sets.Of(1, 2), sets.Of(2, 3)) == sets.Of(1)},
		{"Within(0, 0)", sets.Within(0, 0)},
		{"Within", sets.Within(sets.Of(1), sets.Of(1, 2))},
		{"not Within", !sets.Within(sets.Of(1), 0)},
		{"Compare", sets.Compare(sets.Of(5), sets.Of(0, 1, 2)) == 1},
		{"Least of none", noLeast == 0 && !none},
		{"Text", sets.Text(sets.Of(2, 0), nil) == "{0 2}"},
		{"Text of none", sets.Text(0, nil) == "{}"},
	}
	for _, c := range checks {
		if !c.good {
			t.Errorf("example: %s", c.call)
		}
	}
}
