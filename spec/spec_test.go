package spec_test

import (
	"reflect"
	"slices"
	"strconv"
	"strings"
	"testing"
	"unsafe"

	"dovetail/api"
	"dovetail/gram"
	"dovetail/probe"
	"dovetail/spec"
	"dovetail/words"
)

// told is what an error tells: the one of all that it is, its place, its rule.
func told(err error) (which error, at, rule int) {
	return probe.Which(err), probe.PlaceOf(err), probe.RuleOf(err)
}

// short is a text as a fault is told of it.
func short(text string) string {
	if len(text) > 300 {
		return strconv.Quote(text[:300]) + " and " + strconv.Itoa(len(text)-300) + " bytes"
	}
	return strconv.Quote(text)
}

// checkRefused: Read and Places have that error alone, and nothing beside it.
func checkRefused(t *testing.T, text string, want error, at, rule int) {
	t.Helper()
	g, err := spec.Read(text)
	if which, p, r := told(err); which != want || p != at || r != rule || !reflect.DeepEqual(g, api.Grammar{}) {
		t.Errorf("Read(%s): %v %v, want %v at %d in rule %d", short(text), g, err, want, at, rule)
	}
	places, err := spec.Places(text)
	if which, p, r := told(err); which != want || p != at || r != rule || len(places) != 0 {
		t.Errorf("Places(%s): %v %v, want %v at %d in rule %d", short(text), places, err, want, at, rule)
	}
}

func checkWrong(t *testing.T, text string, at int) {
	t.Helper()
	checkRefused(t, text, api.ErrSyntax, at, probe.None)
}

func checkBounds(t *testing.T, text string, rule int) {
	t.Helper()
	checkRefused(t, text, api.ErrBounds, probe.None, rule)
}

func checkRead(t *testing.T, text string, want api.Grammar) {
	t.Helper()
	if g, err := spec.Read(text); err != nil || !gram.Same(g, want) {
		t.Errorf("Read(%s): %v %v, want %v", short(text), g, err, want)
	}
}

func checkPlaces(t *testing.T, text string, want ...int) {
	t.Helper()
	if got, err := spec.Places(text); err != nil || !slices.Equal(got, want) {
		t.Errorf("Places(%s): %v %v, want %v", short(text), got, err, want)
	}
}

// checkAsRead holds both calls against what the chapter's words make of a text.
func checkAsRead(t *testing.T, text string) {
	t.Helper()
	switch want := readingOf(text); want.err {
	case nil:
		checkRead(t, text, want.grammar)
		checkPlaces(t, text, want.places...)
	case api.ErrSyntax:
		checkWrong(t, text, want.at)
	default:
		checkBounds(t, text, want.rule)
	}
}

func rule(left int, right ...int) api.Rule { return api.Rule{Left: left, Right: right} }

// list is texts in a row, shorter to write in grammars.
func list(names ...string) []string { return names }

// ruleLines are rule lines of those left sides, without names behind.
func ruleLines(lefts []string) string { return strings.Join(lefts, " :\n") + " :\n" }

// manyTexts are all short texts of some words, and mixed ones.
func manyTexts() []string {
	list := probe.Texts(5, "S ", "a ", ": ", "| ", "\"S\" ", "\n", "# :")
	list = append(list, probe.Texts(3, "S", ":", "|", " ", "\n", "#", "\"", "\\")...)
	var n probe.Numbers
	for range 20000 {
		list = append(list, probe.MixedText(&n))
	}
	return list
}

// P4.1

func TestReadOfRuleLines(t *testing.T) {
	checkRead(t, "S : a", api.Grammar{Terms: list("a"), Nonterms: list("S"), Rules: []api.Rule{rule(0, 0)}})
	checkRead(t, "S : a S b | a b\n", api.Grammar{Terms: list("a", "b"), Nonterms: list("S"), Rules: []api.Rule{rule(0, 0, -1, 1), rule(0, 0, 1)}})
	checkRead(t, "S :\n", api.Grammar{Nonterms: list("S"), Rules: []api.Rule{rule(0)}})
	checkRead(t, "S : | |", api.Grammar{Nonterms: list("S"), Rules: []api.Rule{rule(0), rule(0), rule(0)}})
	checkRead(t, "S : a\nS : a", api.Grammar{Terms: list("a"), Nonterms: list("S"), Rules: []api.Rule{rule(0, 0), rule(0, 0)}})
	checkRead(t, "S : a\nT : S\nS : T T", api.Grammar{Terms: list("a"), Nonterms: list("S", "T"), Rules: []api.Rule{rule(0, 0), rule(1, -1), rule(0, -2, -2)}})
}

func TestReadOfNonterminalsAheadOfTheirLine(t *testing.T) {
	checkRead(t, "A : C b B c\nB : A\nC : c", api.Grammar{Terms: list("b", "c"), Nonterms: list("A", "B", "C"), Rules: []api.Rule{rule(0, -3, 0, -2, 1), rule(1, -1), rule(2, 1)}})
	checkRead(t, "A : B\n| B\nB : B", api.Grammar{Nonterms: list("A", "B"), Rules: []api.Rule{rule(0, -2), rule(0, -2), rule(1, -2)}})
}

func TestReadOfQuotedNames(t *testing.T) {
	both := api.Grammar{Terms: list("S", "a"), Nonterms: list("S"), Rules: []api.Rule{rule(0, 0, -1, 0, 1, 1)}}
	checkRead(t, "S : \"S\" S \"S\" a \"a\"", both)
	checkRead(t, "S : \"\\x53\" S \"S\" \"a\" a", both)
	checkRead(t, "S : \":\" \"|\" \"a b\" \"\\n\\x00\\\"\" \"#\"", api.Grammar{Terms: list(":", "|", "a b", "\n\x00\"", "#"), Nonterms: list("S"), Rules: []api.Rule{rule(0, 0, 1, 2, 3, 4)}})
	checkRead(t, "S : \"T\" \nT : \"S\" S", api.Grammar{Terms: list("T", "S"), Nonterms: list("S", "T"), Rules: []api.Rule{rule(0, 0), rule(1, 1, -1)}})
}

func TestReadOfNamesLikeMarks(t *testing.T) {
	checkRead(t, ":: : |b || :a a#b", api.Grammar{Terms: list("|b", "||", ":a", "a#b"), Nonterms: list("::"), Rules: []api.Rule{rule(0, 0, 1, 2, 3)}})
	checkRead(t, "|| :\n||| : ||", api.Grammar{Nonterms: list("||", "|||"), Rules: []api.Rule{rule(0), rule(1, -1)}})
}

func TestReadOfFurtherLines(t *testing.T) {
	checkRead(t, "S : a\n| b | S\n\n# none\nT :\n|\n| a", api.Grammar{Terms: list("a", "b"), Nonterms: list("S", "T"), Rules: []api.Rule{rule(0, 0), rule(0, 1), rule(0, -1), rule(1), rule(1), rule(1, 0)}})
	checkRead(t, "S : a\nT : b\nS : c\n| d", api.Grammar{Terms: list("a", "b", "c", "d"), Nonterms: list("S", "T"), Rules: []api.Rule{rule(0, 0), rule(1, 1), rule(0, 2), rule(0, 3)}})
}

func TestWordsThatAreNoLines(t *testing.T) {
	checkWrong(t, "S : a : b", 6)
	checkWrong(t, "S : :", 4)
	checkWrong(t, "S : | :", 6)
	checkWrong(t, "S a", 2)
	checkWrong(t, "S | a", 2)
	checkWrong(t, "S \":\" a", 2)
	checkWrong(t, "S S : a", 2)
	checkWrong(t, "S :a", 2)
	checkWrong(t, ": a", 0)
	checkWrong(t, " \t: a", 2)
	checkWrong(t, "\"S\" : a", 0)
	checkWrong(t, "S : a\n\"S\" : a", 6)
	checkWrong(t, "S : a\n\"|\" a", 6)
	checkWrong(t, "S : a\n  : b", 8)
	checkWrong(t, "S : a\n| b : c", 10)
	checkWrong(t, "S : a\n| : c", 8)
	checkWrong(t, "S : a\n\n T b", 10)
}

func TestFurtherLinesWithoutARuleLine(t *testing.T) {
	checkWrong(t, "| a", 0)
	checkWrong(t, "\n\n | a\nS : a", 3)
	checkWrong(t, "# S : a\n| a", 8)
}

func TestWhatIsMissing(t *testing.T) {
	checkWrong(t, "S", 1)
	checkWrong(t, "S \t ", 4)
	checkWrong(t, "S # : a", 7)
	checkWrong(t, "S\n: a", 1)
	checkWrong(t, "S : a\nT", 7)
	checkWrong(t, "S : a\nT # b\n| a", 11)
	checkWrong(t, "S : a\nb c", 8)
	checkWrong(t, "S : a\nb", 7)
}

func TestTextsWithoutARuleLine(t *testing.T) {
	checkWrong(t, "", 0)
	checkWrong(t, " ", 1)
	checkWrong(t, "# none", 6)
	checkWrong(t, "\n", 1)
	checkWrong(t, "\n# S : a\n\t\n", 11)
}

func TestFaultsOfWords(t *testing.T) {
	checkWrong(t, "S : \"", 5)
	checkWrong(t, "S : \"a\nb\"", 6)
	checkWrong(t, "S : a\n| \"b\" \"\\q\"", 13)
	checkWrong(t, "S : a\n| \"b\"c", 11)
	checkWrong(t, "S : a\n\n\nT : a\x80b", 13)
	checkWrong(t, "S : a\r\n", 5)
	// The words of a line are found ahead of what they are.
	checkWrong(t, ": S \"", 5)
	checkWrong(t, "S : \"\" \x7f", 7)
	checkWrong(t, "S S\x00", 3)
	// The lines ahead of it come first.
	checkWrong(t, ": S\nS : \"", 0)
	checkWrong(t, "S\nS : \"", 1)
}

func TestNamesOfWrongLength(t *testing.T) {
	a32, a33 := strings.Repeat("a", 32), strings.Repeat("a", 33)
	checkRead(t, a32+" : \""+strings.Repeat("\\x00", 32)+"\" "+strings.Repeat("b", 32), api.Grammar{Terms: list(strings.Repeat("\x00", 32), strings.Repeat("b", 32)), Nonterms: list(a32), Rules: []api.Rule{rule(0, 0, 1)}})
	checkWrong(t, a33+" : a", 0)
	checkWrong(t, a33, 0)
	checkWrong(t, "S : "+a33, 4)
	checkWrong(t, "S : a "+a33+" "+a33, 6)
	checkWrong(t, "S : a\n| b \""+strings.Repeat("\\n", 33)+"\"", 10)
	checkWrong(t, "S : \"\"", 4)
	checkWrong(t, "S : a | \"\" b", 8)
	checkWrong(t, "S : \"\" :", 4)
	checkWrong(t, "S : : \"\"", 4)
	checkWrong(t, "\"\"", 0)
	checkWrong(t, "S \"\"", 2)
}

func TestLongLines(t *testing.T) {
	full := "S : a #" + strings.Repeat("x", api.MaxText-7)
	one := api.Grammar{Terms: list("a"), Nonterms: list("S"), Rules: []api.Rule{rule(0, 0)}}
	checkRead(t, full, one)
	checkRead(t, full+"\n"+strings.Repeat(" ", api.MaxText)+"\n", one)
	checkWrong(t, full+"x", api.MaxText)
	checkWrong(t, full+"xxx\n", api.MaxText)
	checkWrong(t, "S : a\n"+full+" ", 6+api.MaxText)
	checkWrong(t, "\n"+strings.Repeat(" ", api.MaxText+1)+"\nS : a", 1+api.MaxText)
	// Whatever else is wrong in such a line, and nothing that is wrong ahead of it.
	checkWrong(t, "\x80 : :"+full, api.MaxText)
	checkWrong(t, "T : a\n: \"\\q"+full, 6+api.MaxText)
	checkWrong(t, "T\n"+full+"x", 1)
	checkWrong(t, full+"x\n: \"", api.MaxText)
}

func TestLongTexts(t *testing.T) {
	text := strings.Repeat("# a comment\n", api.MaxText/4) + "S : a"
	checkRead(t, text, api.Grammar{Terms: list("a"), Nonterms: list("S"), Rules: []api.Rule{rule(0, 0)}})
	checkPlaces(t, text, len(text)-1)
	checkWrong(t, text+" :", len(text)+1)
	checkBounds(t, strings.Repeat("S :\n", 100000), probe.None)
	checkBounds(t, ruleLines(probe.Names("n", 100000)), probe.None)
	checkBounds(t, "S : "+strings.Join(probe.Names("t", 100000), " "), probe.None)
}

func TestSymbolBounds(t *testing.T) {
	sixty := "S : " + strings.Join(probe.Names("a", 30), " ") + "\n| " + strings.Join(probe.Names("b", 29), " ")
	if g, err := spec.Read(sixty); err != nil || len(g.Terms) != 59 {
		t.Errorf("60 symbols: %v %v", g, err)
	}
	checkBounds(t, sixty+" c", probe.None)
	checkRead(t, ruleLines(probe.Names("n", 60)), api.Grammar{Nonterms: probe.Names("n", 60), Rules: readingOf(ruleLines(probe.Names("n", 60))).grammar.Rules})
	checkBounds(t, ruleLines(probe.Names("n", 61)), probe.None)
	checkBounds(t, ruleLines(probe.Names("n", 60))+"| a", probe.None)
	checkBounds(t, ruleLines(probe.Names("n", 60))+"| \"n0\"", probe.None)
	checkAsRead(t, ruleLines(probe.Names("n", 60))+"| n0")
}

func TestRuleBounds(t *testing.T) {
	if g, err := spec.Read("S :" + strings.Repeat(" |", 119)); err != nil || len(g.Rules) != 120 {
		t.Errorf("120 rules: %v %v", g, err)
	}
	checkBounds(t, "S :"+strings.Repeat(" |", 120), probe.None)
	checkBounds(t, strings.Repeat("S :\n", 60)+strings.Repeat("|\n", 61), probe.None)
	checkAsRead(t, strings.Repeat("S :\n", 60)+strings.Repeat("|\n", 60))
}

func TestRightSideBounds(t *testing.T) {
	full, over := strings.Repeat(" a", 32), strings.Repeat(" a", 33)
	checkAsRead(t, "S :"+full+" |"+full+"\n|"+full)
	checkBounds(t, "S :"+over, 0)
	checkBounds(t, "S :"+full+" | |"+over+" |"+over, 2)
	checkBounds(t, "S : a\nT :"+full+"\n| S"+full+"\nS :"+over, 2)
	// What is too many in all comes first.
	checkBounds(t, "S :"+over+strings.Repeat(" |", 120), probe.None)
	checkBounds(t, "S :"+over+"\n"+ruleLines(probe.Names("n", 60)), probe.None)
}

func TestSyntaxAheadOfBounds(t *testing.T) {
	for _, text := range []string{"S :" + strings.Repeat(" a", 33) + "\n", ruleLines(probe.Names("n", 61)), "S :" + strings.Repeat(" |", 120) + "\n"} {
		checkBounds(t, text, readingOf(text).rule)
		checkWrong(t, text+"T", len(text)+1)
		checkWrong(t, text+"T : \"", len(text)+5)
		checkWrong(t, text+"T : \"\"", len(text)+4)
	}
}

func TestReadAndPlacesOfManyTexts(t *testing.T) {
	kinds := map[error]int{}
	for _, text := range manyTexts() {
		checkAsRead(t, text)
		kinds[readingOf(text).err]++
	}
	if kinds[nil] < 5000 || kinds[api.ErrSyntax] < 5000 {
		t.Errorf("the texts are of too few kinds: %v", kinds)
	}
}

func TestAnyBytes(t *testing.T) {
	for c := range 256 {
		for _, ahead := range []string{"", "S", "S ", "S :", "S : ", "S : a\n", "S : \"", "S : #", "S : \"\\"} {
			checkAsRead(t, ahead+string([]byte{byte(c)}))
			checkAsRead(t, ahead+string([]byte{byte(c)})+"\" :")
		}
	}
	var n probe.Numbers
	for range 20000 {
		text := make([]byte, n.Below(12))
		for i := range text {
			text[i] = byte(n.Below(256))
		}
		checkAsRead(t, string(text))
	}
}

// P4.2

func TestPlaces(t *testing.T) {
	checkPlaces(t, "S : a", 4)
	checkPlaces(t, "S :   a", 6)
	checkPlaces(t, "S :", 3)
	checkPlaces(t, "S :  # a", 3)
	checkPlaces(t, "S : | a |", 3, 6, 9)
	checkPlaces(t, "S : a b | \"c\" d\n\n|  e\n|\t\n T : \"\\x00\" |", 4, 10, 20, 23, 30, 38)
	checkPlaces(t, "S : |\n", 3, 5)
	checkPlaces(t, "# none\n\n  S   :\n#\n  |  \n", 15, 21)
}

// P4.3

func TestWhatIsReadMayBe(t *testing.T) {
	for _, text := range manyTexts() {
		g, err := spec.Read(text)
		if err != nil {
			continue
		}
		if gram.Check(g) != nil || g.Axiom != 0 {
			t.Errorf("Read(%q): %v: axiom %d, %v", text, g, g.Axiom, gram.Check(g))
		}
		var lefts, terms []int
		for _, r := range g.Rules {
			lefts = append(lefts, r.Left)
			for _, symbol := range r.Right {
				if symbol >= 0 {
					terms = append(terms, symbol)
				}
			}
		}
		if !firstInOrder(lefts, len(g.Nonterms)) || !firstInOrder(terms, len(g.Terms)) {
			t.Errorf("Read(%q): %v: names that don't stand in their order", text, g)
		}
	}
}

// firstInOrder tells whether the numbers 0 to n - 1, and no others, stand in a list, and first do so in their order.
func firstInOrder(list []int, n int) bool {
	next := 0
	for _, k := range list {
		if k > next {
			return false
		}
		if k == next {
			next++
		}
	}
	return next == n
}

// P4.4

// side is a left side with its alternatives, as they stand in a text.
type side struct {
	left   string
	rights []string
}

func mixedSides(n *probe.Numbers) []side {
	sides := []side{{left: "S"}, {left: "T"}, {left: "U"}}[:1+n.Below(3)]
	for i := range sides {
		for range 1 + n.Below(4) {
			right := []string{}
			for range n.Below(4) {
				right = append(right, n.One("a", "b", "S", "T", "U", "\"S\"", "\"|\"", "\"a\"", "\"c\\n\""))
			}
			sides[i].rights = append(sides[i].rights, strings.Join(right, " "))
		}
	}
	return sides
}

// oneLineEach writes a line for each left side.
func oneLineEach(sides []side) string {
	var text strings.Builder
	for _, s := range sides {
		text.WriteString(s.left + " : " + strings.Join(s.rights, " | ") + "\n")
	}
	return text.String()
}

// anyLayout writes the same rules in any way that the chapter allows.
func anyLayout(n *probe.Numbers, sides []side) string {
	var text strings.Builder
	end := func() {
		text.WriteString(n.One("", " ", "\t", " # : |", "  #\"", "\t#\x80") + "\n")
		for n.Below(3) == 0 {
			text.WriteString(n.One("", "\t ", "# S : a", " #") + "\n")
		}
	}
	for _, s := range sides {
		for i, right := range s.rights {
			switch way := n.Below(3); {
			case i > 0 && way == 0:
				text.WriteString(n.One(" ", "\t ") + "|")
			case i > 0 && way == 1:
				end()
				text.WriteString(n.One("", "  ") + "|")
			default:
				if text.Len() > 0 {
					end()
				}
				text.WriteString(n.One("", " ") + s.left + n.One(" ", "\t") + ":")
			}
			for _, name := range strings.Fields(right) {
				text.WriteString(n.One(" ", "  ", "\t") + name)
			}
		}
	}
	if n.Below(2) == 0 {
		end()
	}
	return text.String()
}

func TestLayouts(t *testing.T) {
	var n probe.Numbers
	for range 5000 {
		sides := mixedSides(&n)
		want, err := spec.Read(oneLineEach(sides))
		if err != nil {
			t.Fatalf("Read(%q): %v", oneLineEach(sides), err)
		}
		checkRead(t, anyLayout(&n, sides), want)
	}
}

// P4.5

// behindLine is where the line of a place ends.
func behindLine(text string, at int) int {
	if i := strings.IndexByte(text[at:], '\n'); i >= 0 {
		return at + i
	}
	return len(text)
}

func TestPlacesOfFaults(t *testing.T) {
	for _, text := range manyTexts() {
		_, err := spec.Read(text)
		which, at, _ := told(err)
		if which != api.ErrSyntax {
			continue
		}
		if at < 0 || at > len(text) {
			t.Errorf("Read(%q): %v", text, err)
			continue
		}
		// Where no rule line is found, the place is the text's end, wherever that is.
		if _, ahead := linesOf(text + "\nS : a"); ahead < 0 {
			continue
		}
		for _, behind := range []string{"", "\n", "\nS : a", "\n: \"", "\n| a\nS"} {
			checkWrong(t, text[:behindLine(text, at)]+behind, at)
		}
	}
}

func TestPlacesOfRules(t *testing.T) {
	for _, text := range manyTexts() {
		places, err := spec.Places(text)
		if err != nil {
			continue
		}
		if g, _ := spec.Read(text); len(g.Rules) != len(places) {
			t.Errorf("Places(%q): %v of %d rules", text, places, len(g.Rules))
		}
		for n, at := range places {
			if at < 0 || at > len(text) || n > 0 && at <= places[n-1] {
				t.Errorf("Places(%q): %v", text, places)
				break
			}
			for _, behind := range []string{"", "\n", "\n# none\nT : \"b\" |\n| c"} {
				if got, err := spec.Places(text[:behindLine(text, at)] + behind); err != nil || len(got) <= n || !slices.Equal(got[:n+1], places[:n+1]) {
					t.Errorf("Places(%q): %v, but %v %v with %q behind line %d", text, places, got, err, behind, n)
				}
			}
		}
	}
}

// P4.6

const sums = "E : E + T | T # sums\nT : i |\n| \"E\" | i"

func TestAnswersAreNewMemory(t *testing.T) {
	first, _ := spec.Read(sums)
	second, _ := spec.Read(sums)
	if !probe.GrammarsApart(first, second) {
		t.Error("lists of answers share memory")
	}
	places, _ := spec.Places(sums)
	others, _ := spec.Places(sums)
	if !probe.Apart(places, others) {
		t.Error("lists of places share memory")
	}
}

func TestNamesAreNewMemory(t *testing.T) {
	text := strings.Clone(sums)
	g, _ := spec.Read(text)
	from := uintptr(unsafe.Pointer(unsafe.StringData(text)))
	for _, name := range append(slices.Clone(g.Terms), g.Nonterms...) {
		if at := uintptr(unsafe.Pointer(unsafe.StringData(name))); at >= from && at < from+uintptr(len(text)) {
			t.Errorf("the name %q lies in the text", name)
		}
	}
}

func TestErrorsAreNewMemory(t *testing.T) {
	for _, text := range []string{"", "S", "S : \"", "S :" + strings.Repeat(" a", 33)} {
		_, first := spec.Read(text)
		_, second := spec.Read(text)
		if first == second {
			t.Errorf("two errors of %q are one", text)
		}
	}
}

// TestExamples is the table of chapter 4.
func TestExamples(t *testing.T) {
	checkRead(t, "E : E + T | T\nT : i | \"E\"", api.Grammar{Terms: list("+", "i", "E"), Nonterms: list("E", "T"), Rules: []api.Rule{rule(0, -1, 0, -2), rule(0, -2), rule(1, 1), rule(1, 2)}})
	checkRead(t, "S : a S b\n| a b # the end", api.Grammar{Terms: list("a", "b"), Nonterms: list("S"), Rules: []api.Rule{rule(0, 0, -1, 1), rule(0, 0, 1)}})
	checkRead(t, "S :", api.Grammar{Nonterms: list("S"), Rules: []api.Rule{rule(0)}})
	checkRead(t, "S : a |", api.Grammar{Terms: list("a"), Nonterms: list("S"), Rules: []api.Rule{rule(0, 0), rule(0)}})
	checkRead(t, "S : | a", api.Grammar{Terms: list("a"), Nonterms: list("S"), Rules: []api.Rule{rule(0), rule(0, 0)}})
	checkWrong(t, "", 0)
	checkWrong(t, "# none", 6)
	checkWrong(t, "| a", 0)
	checkWrong(t, "S", 1)
	checkWrong(t, ": a", 0)
	checkWrong(t, "\"S\" : a", 0)
	checkWrong(t, "S : a : b", 6)
	checkWrong(t, "S a", 2)
	_, err := words.Line("S : \"")
	_, at, _ := told(err)
	checkWrong(t, "S : \"", at)
	checkWrong(t, "S : \"\"", 4)
	checkBounds(t, "S : "+strings.Join(probe.Names("t", 33), " "), 0)
	checkBounds(t, "S :"+strings.Repeat(" a |", 120), probe.None)
	checkBounds(t, "S : "+strings.Join(probe.Names("t", 30), " ")+" | "+strings.Join(probe.Names("u", 30), " "), probe.None)
	checkPlaces(t, "S : a | |b", 4, 8)
}
