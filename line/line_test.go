package line_test

import (
	"math"
	"slices"
	"strings"
	"testing"

	"dovetail/api"
	"dovetail/gram"
	"dovetail/line"
	"dovetail/probe"
	"dovetail/words"
)

// P15.1, P15.2

func TestRead(t *testing.T) {
	cases := []struct {
		text           string
		tokens, places []int
	}{
		{"", nil, nil},
		{" \t ", nil, nil},
		{"\n\n \n", nil, nil},
		{"# i + i", nil, nil},
		{"# i\n\t# +\n", nil, nil},
		{"i", []int{1}, []int{0}},
		{"i + i", []int{1, 0, 1}, []int{0, 2, 4}},
		{"  i\t\t+  ", []int{1, 0}, []int{2, 5}},
		{"i\n+\ni\n", []int{1, 0, 1}, []int{0, 2, 4}},
		{"\n\ni\n\n  +\n", []int{1, 0}, []int{2, 7}},
		{"i # +\n+ # \"\n#i\ni", []int{1, 0, 1}, []int{0, 6, 15}},
		{"\"a b\"\n\"a b\" \"a b\"", []int{2, 2, 2}, []int{0, 6, 12}},
		{"\"i\" \"\\x69\"\n\"+\" \"a\\x20b\"", []int{1, 1, 0, 2}, []int{0, 4, 11, 15}},
	}
	for _, c := range cases {
		checkRead(t, example(), c.text, c.tokens, c.places)
	}
}

// TestNamesOfAnyBytes: in quotes each name is found, and without them each that is Plain.
func TestNamesOfAnyBytes(t *testing.T) {
	var n probe.Numbers
	for c := range 256 {
		name := string([]byte{byte(c)})
		g := api.Grammar{Terms: []string{name + name, "ab" + name, name}, Nonterms: []string{"E", name + " "}}
		checkRead(t, g, "\n "+words.Quote(name)+" ", []int{2}, []int{2})
		for token, other := range g.Terms {
			for range 4 {
				checkRead(t, g, inQuotes(&n, other), []int{token}, []int{0})
			}
		}
		if words.Plain(name) {
			checkRead(t, g, name+" ab"+name+" "+name+name, []int{2, 1, 0}, []int{0, 2, 6})
		}
	}
}

func TestNamesOfAllKinds(t *testing.T) {
	g := strange()
	var n probe.Numbers
	for token, name := range g.Terms {
		for range 4 {
			word := asWord(&n, name)
			checkRead(t, g, word+"\n"+words.Quote(name), []int{token, token}, []int{0, len(word) + 1})
		}
	}
}

// TestEachNumber: the greatest grammar has 59 terminals, and one may have none.
func TestEachNumber(t *testing.T) {
	g := api.Grammar{Terms: probe.Names("t", 59), Nonterms: []string{"E"}}
	checkRead(t, g, strings.Join(g.Terms, "\n"), probe.UpTo(59), readingOf(g, strings.Join(g.Terms, " ")).places)
	checkRefused(t, g, "t58 t59", probe.AtPlace(api.ErrName, 4))
	none := api.Grammar{Nonterms: []string{"E"}}
	checkRead(t, none, "", nil, nil)
	checkRead(t, none, " \n# E\n", nil, nil)
	checkRefused(t, none, " E", probe.AtPlace(api.ErrName, 1))
	checkRefused(t, none, "\"\"", probe.AtPlace(api.ErrName, 0))
}

func TestWordsThatAreNoNames(t *testing.T) {
	for _, word := range []string{"E", "\"E\"", "I", "ii", "+i", "a", "b", "ab", "\"\"", "\"a  b\"", "\" i\"", "\"i \"", "\"a\\nb\"", "\"\\x00i\"", ":", "|", "$", "?", "0", "1", "-1", "i#", "\\", strings.Repeat("i", 33), strings.Repeat("i", 5000)} {
		checkRefused(t, example(), word, probe.AtPlace(api.ErrName, 0))
		checkRefused(t, example(), "i "+word+" i", probe.AtPlace(api.ErrName, 2))
		checkRefused(t, example(), "i\n\n # x\n+ \t"+word, probe.AtPlace(api.ErrName, 11))
		checkRefused(t, example(), " "+word+" x \"\"\n\"", probe.AtPlace(api.ErrName, 1))
	}
}

func TestFaultsOfLines(t *testing.T) {
	cases := []struct {
		text  string
		place int
	}{
		{"\"", 1},
		{"i \"i", 4},
		{"\"i\n\"", 2},
		{"i\n\"i", 4},
		{"\"a b\"\n\"i", 8},
		{"i\"", 1},
		{"i\n+\n\"i\"i", 7},
		{"i\r\n+", 1},
		{"i \x00", 2},
		{"\n\n\n  \x80", 5},
		{"# \"\n\"a\\q\"", 6},
		{"i # \x80\n\"a\\x4\"", 8},
		{"é", 0},
	}
	for _, c := range cases {
		checkRefused(t, example(), c.text, probe.AtPlace(api.ErrSyntax, c.place))
		checkRefused(t, example(), c.text+"\nE \x80", probe.AtPlace(api.ErrSyntax, c.place))
		checkRefused(t, example(), "+ # \n"+c.text, probe.AtPlace(api.ErrSyntax, 5+c.place))
	}
}

// TestWordsOfALineAreKnownAhead: a line's fault is told ahead of a word of it that is no name, and behind those of lines ahead.
func TestWordsOfALineAreKnownAhead(t *testing.T) {
	checkRefused(t, example(), "E \"", probe.AtPlace(api.ErrSyntax, 3))
	checkRefused(t, example(), "i\n\"\" E i \x80 \"", probe.AtPlace(api.ErrSyntax, 9))
	checkRefused(t, example(), "E\n\"", probe.AtPlace(api.ErrName, 0))
	checkRefused(t, example(), "i + E # \"\n\"", probe.AtPlace(api.ErrName, 4))
	checkRefused(t, example(), "i\n  E\n\x80", probe.AtPlace(api.ErrName, 4))
}

func TestTooManyTokens(t *testing.T) {
	g := example()
	full := strings.Repeat("i ", api.MaxTokens)
	tokens, places := slices.Repeat([]int{1}, api.MaxTokens), make([]int, api.MaxTokens)
	for i := range places {
		places[i] = 2 * i
	}
	for _, text := range []string{full, strings.TrimSuffix(full, " "), full + "\n\n", full + "# i", strings.ReplaceAll(full, " ", "\n")} {
		checkRead(t, g, text, tokens, places)
	}
	end := len(full)
	for _, behind := range []string{"i", "i i", "E", "\"\"", "E E", "i E", "+\n\"", "E\n\x80"} {
		checkRefused(t, g, full+behind, probe.AtPlace(api.ErrLong, end))
		checkRefused(t, g, full+"\n\n \t"+behind, probe.AtPlace(api.ErrLong, end+4))
	}
	checkRefused(t, g, full+full, probe.AtPlace(api.ErrLong, end))
	// The words of the line are known ahead of it; what is no name stands ahead of it.
	checkRefused(t, g, full+"i \"", probe.AtPlace(api.ErrSyntax, end+3))
	checkRefused(t, g, full+"\ni\x80", probe.AtPlace(api.ErrSyntax, end+2))
	checkRefused(t, g, full+"# \n\"", probe.AtPlace(api.ErrSyntax, end+4))
	checkRefused(t, g, "E "+full, probe.AtPlace(api.ErrName, 0))
	checkRefused(t, g, full[2:]+"E i", probe.AtPlace(api.ErrName, end-2))
	checkRefused(t, g, full[2:]+"\nE\ni", probe.AtPlace(api.ErrName, end-1))
}

func TestLongTexts(t *testing.T) {
	g := example()
	blanks := strings.Repeat(" ", api.MaxText-2)
	checkRead(t, g, blanks+" i", []int{1}, []int{api.MaxText - 1})
	checkRead(t, g, "i #"+blanks[1:], []int{1}, []int{0})
	checkRead(t, g, strings.Repeat("\n", api.MaxText-1)+"+", []int{0}, []int{api.MaxText - 1})
	checkRefused(t, g, blanks+" E", probe.AtPlace(api.ErrName, api.MaxText-1))
	checkRefused(t, g, blanks+" \"", probe.AtPlace(api.ErrSyntax, api.MaxText))
	// One byte more, whatever it is, and whatever else is wrong.
	for _, text := range []string{blanks + " i ", blanks + " i\n", "\n" + blanks + "  ", "E" + blanks + "  ", "\"" + blanks + " i", "\x80" + blanks + "ii", "#" + blanks + "##", strings.Repeat("i ", api.MaxText), strings.Repeat("\n", api.MaxText+1), strings.Repeat("x", 4*api.MaxText)} {
		checkRefused(t, g, text, probe.Bare(api.ErrLong))
	}
}

// TestGrammarsThatMayNotBe: what layer 3 tells goes ahead of all.
func TestGrammarsThatMayNotBe(t *testing.T) {
	texts := []string{"", "i + i", "E", "\"", strings.Repeat(" ", api.MaxText+1), strings.Repeat("i ", api.MaxTokens+1)}
	lists := [][]int{nil, {1, 0, 1}, {-1}, {1000}, make([]int, api.MaxTokens+1), slices.Repeat([]int{2}, api.MaxTokens)}
	for _, w := range probe.Wrongs(example()) {
		want := probe.FaultOf(gram.Check(w.Grammar))
		if want.Which == nil {
			t.Fatalf("%s: gram takes it", w.What)
		}
		for _, text := range texts {
			checkRefused(t, w.Grammar, text, want)
		}
		for _, tokens := range lists {
			checkUnwritten(t, w.Grammar, want, tokens...)
		}
	}
}

func TestReadOfManyTexts(t *testing.T) {
	counts := make(map[error]int)
	for _, text := range manyTexts() {
		counts[checkAsRead(t, example(), text).fault.Which]++
	}
	for _, which := range []error{nil, api.ErrSyntax, api.ErrName} {
		if counts[which] < 5000 {
			t.Errorf("only %d: %v", counts[which], which)
		}
	}
	var n probe.Numbers
	for range 5000 {
		checkAsRead(t, strange(), mixedText(&n, strange()))
	}
}

func TestAnyBytes(t *testing.T) {
	for c := range 256 {
		b := string([]byte{byte(c)})
		for _, ahead := range []string{"", "i", "i ", "+ \"", "i\n", "E ", "\"\\", "# ", "\"i\""} {
			for _, behind := range []string{"", "i", " i", "\"", "\ni", " E"} {
				checkAsRead(t, example(), ahead+b+behind)
				checkAsRead(t, strange(), ahead+b+behind)
			}
		}
	}
	var n probe.Numbers
	for range 20000 {
		text := make([]byte, n.Below(12))
		for i := range text {
			text[i] = byte(n.Below(256))
		}
		checkAsRead(t, strange(), string(text))
	}
}

// P15.3

func TestWrite(t *testing.T) {
	checkWritten(t, example(), "")
	checkWritten(t, example(), "+", 0)
	checkWritten(t, example(), "i + i", 1, 0, 1)
	checkWritten(t, example(), `"a b" "a b"`, 2, 2)
	checkWritten(t, strange(), `a b aa A E : | $ ? "#" "#a" a# "\"" "\"a\"" \ \n n "\n" "\x09" " " "a b" " a" "\x00" "\x7F" "\x80" "\xFF" "\xC3\xA9" \x41 "\x0D"`, probe.UpTo(29)...)
	checkWritten(t, strange(), strings.Repeat("x", 32)+` "`+strings.Repeat(`\xFF`, 32)+`" "`+strings.Repeat(`\"`, 32)+`"`, 29, 30, 31)
	checkWritten(t, api.Grammar{Nonterms: []string{"E"}}, "")
	for c := range 256 {
		name := string([]byte{byte(c)})
		want := name
		if !words.Plain(name) {
			want = words.Quote(name)
		}
		checkWritten(t, api.Grammar{Terms: []string{name}, Nonterms: []string{name}}, want+" "+want, 0, 0)
	}
}

func TestWriteOfManyTokens(t *testing.T) {
	var n probe.Numbers
	for _, g := range []api.Grammar{example(), strange()} {
		for range 2000 {
			tokens := mixedTokens(&n, g, n.Below(20))
			if n.Below(4) == 0 && len(tokens) > 0 {
				tokens[n.Below(len(tokens))] += n.Below(3) * (n.Below(80) - 40)
			}
			want, fault := writtenOf(g, tokens)
			if fault.Which == nil {
				checkWritten(t, g, want, tokens...)
			} else {
				checkUnwritten(t, g, fault, tokens...)
			}
		}
	}
}

// TestWriteOfWrongTokens: the end is no token, and no nonterminal is one.
func TestWriteOfWrongTokens(t *testing.T) {
	for _, wrong := range []int{-1, -2, 3, 4, 63, 64, -61, 1 << 32, math.MinInt, math.MaxInt} {
		checkUnwritten(t, example(), probe.Bare(api.ErrArg), wrong)
		for at := range 4 {
			checkUnwritten(t, example(), probe.Bare(api.ErrArg), slices.Insert([]int{1, 0, 2}, at, wrong)...)
		}
	}
	checkUnwritten(t, api.Grammar{Nonterms: []string{"E"}}, probe.Bare(api.ErrArg), 0)
}

func TestWriteOfTooManyTokens(t *testing.T) {
	full := make([]int, api.MaxTokens)
	checkWritten(t, example(), strings.TrimSuffix(strings.Repeat("+ ", api.MaxTokens), " "), full...)
	checkUnwritten(t, example(), probe.Bare(api.ErrLong), append(full, 0)...)
	// Ahead of a token that is none, which goes ahead of a text that is too long.
	checkUnwritten(t, example(), probe.Bare(api.ErrLong), append(full, -1)...)
	checkUnwritten(t, example(), probe.Bare(api.ErrLong), slices.Repeat([]int{-1}, api.MaxTokens+1)...)
	g := api.Grammar{Terms: []string{strings.Repeat("x", 32)}, Nonterms: []string{"E"}}
	checkUnwritten(t, g, probe.Bare(api.ErrLong), full...)
	full[api.MaxTokens-1] = 1
	checkUnwritten(t, g, probe.Bare(api.ErrArg), full...)
	full[0] = -1
	checkUnwritten(t, g, probe.Bare(api.ErrArg), full...)
}

// TestWriteOfLongTexts: with 65536 names of 15 bytes a text has one byte less than it may have. In quotes and escapes names are longer.
func TestWriteOfLongTexts(t *testing.T) {
	for _, names := range [][2]string{
		{strings.Repeat("x", 15), strings.Repeat("y", 16)},
		{"a b" + strings.Repeat("x", 10), "a b" + strings.Repeat("y", 11)},
		{"\xff\n\"\\xxx", "\xff\n\"\\yyyy"},
		{"\x00\x01\x02x", "\x00\x01\x02xy"},
	} {
		g := api.Grammar{Terms: names[:], Nonterms: []string{"E"}}
		tokens := make([]int, api.MaxTokens)
		less, _ := line.Write(g, tokens)
		tokens[7] = 1
		most, err := line.Write(g, tokens)
		if len(less) != api.MaxText-1 || len(most) != api.MaxText || err != nil {
			t.Errorf("%q: texts of %d, %d bytes, %v", names, len(less), len(most), err)
		}
		checkRead(t, g, most, tokens, readingOf(g, most).places)
		tokens[api.MaxTokens-1] = 1
		checkUnwritten(t, g, probe.Bare(api.ErrLong), tokens...)
		checkUnwritten(t, g, probe.Bare(api.ErrLong), slices.Repeat([]int{1}, api.MaxTokens)...)
	}
}
