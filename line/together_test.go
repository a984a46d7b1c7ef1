package line_test

import (
	"slices"
	"strings"
	"testing"
	"unsafe"

	"dovetail/api"
	"dovetail/gram"
	"dovetail/line"
	"dovetail/probe"
)

// P15.4

func TestThereAndBack(t *testing.T) {
	var n probe.Numbers
	for _, g := range []api.Grammar{example(), strange(), {Terms: probe.Names("t", 59), Nonterms: []string{"E"}}} {
		for range 2000 {
			tokens := mixedTokens(&n, g, n.Below(40))
			text, err := line.Write(g, tokens)
			if err != nil {
				t.Fatalf("Write of %v: %v", tokens, err)
			}
			if got, err := line.Read(g, text); err != nil || !slices.Equal(got, tokens) {
				t.Errorf("Read of %q: %v %v, want %v", text, got, err, tokens)
			}
		}
	}
}

// TestWhatIsReadWrittenAndReadAgain: the tokens are the same, and so is what these are written as.
func TestWhatIsReadWrittenAndReadAgain(t *testing.T) {
	for _, text := range manyTexts() {
		tokens, err := line.Read(example(), text)
		if err != nil {
			continue
		}
		written, err := line.Write(example(), tokens)
		if err != nil {
			t.Fatalf("Write of %v: %v", tokens, err)
		}
		again, err := line.Read(example(), written)
		if err != nil || !slices.Equal(again, tokens) {
			t.Errorf("%q is read as %v, and %q as %v %v", text, tokens, written, again, err)
		}
		checkWritten(t, example(), written, again...)
	}
}

func TestThereAndBackOfManyTokens(t *testing.T) {
	var n probe.Numbers
	tokens := mixedTokens(&n, example(), api.MaxTokens)
	text, err := line.Write(example(), tokens)
	if err != nil {
		t.Fatal(err)
	}
	checkRead(t, example(), text, tokens, readingOf(example(), text).places)
}

// TestTextsThatAreLongerWhenWritten: a byte that stands for itself in quotes may be written as four, so what is read can be too long to be written.
func TestTextsThatAreLongerWhenWritten(t *testing.T) {
	g := strange()
	text := strings.TrimSuffix(strings.Repeat("\""+g.Terms[30]+"\" ", api.MaxText/35), " ")
	tokens, err := line.Read(g, text)
	if err != nil || len(tokens) != api.MaxText/35 {
		t.Fatalf("Read: %d tokens, %v", len(tokens), err)
	}
	checkUnwritten(t, g, probe.Bare(api.ErrLong), tokens...)
}

// P15.5

func TestLayouts(t *testing.T) {
	var n probe.Numbers
	for _, g := range []api.Grammar{example(), strange()} {
		for range 3000 {
			tokens := mixedTokens(&n, g, n.Below(20))
			text, places := laidOut(&n, g, tokens)
			checkRead(t, g, text, tokens, places)
		}
	}
}

// TestWhatPartsWords: three words, each in quotes or without them, and all that may stand ahead of them, between them and behind them.
func TestWhatPartsWords(t *testing.T) {
	between := []string{" ", "\t ", "\n", " \n", "\n\n\t", " # + \"\n", "\n#\n"}
	for _, first := range []string{"i", "\"i\"", "\"\\x69\""} {
		for _, second := range []string{"+", "\"\\x2B\""} {
			for _, ahead := range append([]string{""}, between...) {
				for _, behind := range []string{"", " ", "\n", "\t#i", " #\n"} {
					for _, a := range between {
						for _, b := range between {
							text := ahead + first + a + second + b + "\"a b\"" + behind
							at := len(ahead + first + a)
							checkRead(t, example(), text, []int{1, 0, 2}, []int{len(ahead), at, at + len(second+b)})
						}
					}
				}
			}
		}
	}
}

// TestPlaces: they rise, each is where its word stands, and what stands behind its word changes nothing of it.
func TestPlaces(t *testing.T) {
	for _, text := range manyTexts() {
		places, err := line.Places(example(), text)
		if err != nil {
			continue
		}
		tokens, _ := line.Read(example(), text)
		if len(places) != len(tokens) {
			t.Fatalf("%q: the tokens %v, the places %v", text, tokens, places)
		}
		for i, at := range places {
			if at < 0 || at >= len(text) || i > 0 && at <= places[i-1] || !strings.HasPrefix(text[at:], example().Terms[tokens[i]]) && text[at] != '"' {
				t.Errorf("%q: the tokens %v, the places %v", text, tokens, places)
			}
			if i > 0 {
				checkRead(t, example(), text[:at], tokens[:i], places[:i])
				checkRefused(t, example(), text[:at]+"E "+text[at:], probe.AtPlace(api.ErrName, at))
			}
		}
	}
}

// TestOtherParts: the axiom, the rules and the nonterminals make no difference, the order of terminals but that of their numbers.
func TestOtherParts(t *testing.T) {
	g := strange()
	other := api.Grammar{Terms: slices.Clone(g.Terms), Nonterms: []string{"a", "b", "A"}, Axiom: 2}
	slices.Reverse(other.Terms)
	var n probe.Numbers
	for range 500 {
		tokens := mixedTokens(&n, g, n.Below(20))
		text, places := laidOut(&n, g, tokens)
		turned := make([]int, len(tokens))
		for i, token := range tokens {
			turned[i] = len(g.Terms) - 1 - token
		}
		checkRead(t, other, text, turned, places)
		first, _ := line.Write(g, tokens)
		checkWritten(t, other, first, turned...)
	}
}

// P15.6

func TestWhatIsHandedInStays(t *testing.T) {
	for _, g := range []api.Grammar{example(), strange()} {
		roomy := probe.Roomy(g)
		whole := gram.Copy(probe.Whole(roomy))
		room := []int{0, 1, 2, 0, -7, 99}
		tokens := room[:4]
		for _, text := range []string{"", "a", "i + i\n\"a b\"", "E \"", "spare", "i + E"} {
			line.Read(roomy, text)
			line.Places(roomy, text)
			checkAsRead(t, roomy, text)
		}
		if _, err := line.Write(roomy, tokens); err != nil {
			t.Error(err)
		}
		line.Write(roomy, room)
		if !gram.Same(probe.Whole(roomy), whole) || !slices.Equal(room, []int{0, 1, 2, 0, -7, 99}) {
			t.Errorf("what was handed in became %v, %v", probe.Whole(roomy), room)
		}
	}
}

// TestNothingIsKept: what was handed in may be changed, and the answers stay; later ones are those of what is handed in then.
func TestNothingIsKept(t *testing.T) {
	g, tokens := example(), []int{1, 0, 2}
	got, _ := line.Read(g, "i + i")
	text, _ := line.Write(g, tokens)
	g.Terms[0], g.Terms[1] = "i", "+"
	tokens[2] = 0
	if !slices.Equal(got, []int{1, 0, 1}) || text != `i + "a b"` {
		t.Errorf("the answers became %v, %q", got, text)
	}
	checkRead(t, g, "i + i", []int{0, 1, 0}, []int{0, 2, 4})
	checkWritten(t, g, "+ i i", tokens...)
}

func TestAnswersAreNewMemory(t *testing.T) {
	const text = "i + i \"a b\"\n+ i i # x\n+"
	var lists [][]int
	for range 2 {
		tokens, _ := line.Read(example(), text)
		places, _ := line.Places(example(), text)
		lists = append(lists, tokens, places)
	}
	if !probe.Apart(lists...) {
		t.Error("lists of answers share memory")
	}
	for _, list := range lists[:2] {
		list = list[:cap(list)]
		for i := range list {
			list[i] = -1
		}
	}
	if !slices.Equal(lists[2], []int{1, 0, 1, 2, 0, 1, 1, 0}) || !slices.Equal(lists[3], []int{0, 2, 4, 6, 12, 14, 16, 22}) {
		t.Errorf("other answers became %v, %v", lists[2], lists[3])
	}
	checkRead(t, example(), text, lists[2], lists[3])
}

// TestWrittenTextsAreNewMemory: a text of one name doesn't lie in the name, lest it keep the text that the name was cut from.
func TestWrittenTextsAreNewMemory(t *testing.T) {
	g := example()
	for token, name := range g.Terms {
		text, err := line.Write(g, []int{token})
		if err != nil || unsafe.StringData(text) == unsafe.StringData(name) {
			t.Errorf("the text of %q lies in it, %v", name, err)
		}
	}
}

func TestErrorsAreNewMemory(t *testing.T) {
	wrong := example()
	wrong.Rules = []api.Rule{probe.Rule(1)}
	for _, g := range []api.Grammar{example(), wrong} {
		for _, text := range []string{"E", "\"", strings.Repeat("i ", api.MaxTokens+1)} {
			_, first := line.Read(g, text)
			_, second := line.Read(g, text)
			_, third := line.Places(g, text)
			if first == second || first == third {
				t.Errorf("two errors of %.20q are one", text)
			}
		}
	}
}

// TestErrorsAreWrappedOnce: an error with a place is a *PlaceError of the error itself.
func TestErrorsAreWrappedOnce(t *testing.T) {
	for text, want := range map[string]api.PlaceError{"i\nE": {At: 2, Err: api.ErrName}, "i\n\"": {At: 3, Err: api.ErrSyntax}, strings.Repeat("i\n", api.MaxTokens+1): {At: 2 * api.MaxTokens, Err: api.ErrLong}} {
		_, err := line.Read(example(), text)
		_, also := line.Places(example(), text)
		for _, err := range []error{err, also} {
			if p, ok := err.(*api.PlaceError); !ok || *p != want {
				t.Errorf("%.20q: %v, want %v", text, err, &want)
			}
		}
	}
}

// P0.3

func TestRefusedCallsChangeNothing(t *testing.T) {
	for _, text := range []string{"E", "i + \"", strings.Repeat("i ", api.MaxTokens+1), strings.Repeat("i", api.MaxText+1)} {
		if _, err := line.Read(example(), text); err == nil {
			t.Errorf("%.20q is read", text)
		}
		if _, err := line.Write(example(), []int{1, 3}); err == nil {
			t.Error("1 3 is written")
		}
		checkRead(t, example(), "i +", []int{1, 0}, []int{0, 2})
		checkWritten(t, example(), "+ i", 0, 1)
	}
}

// TestExamples is the table of chapter 15, and what the page's last example tells of tokens.
func TestExamples(t *testing.T) {
	checkRead(t, example(), "i + \"i\" # x\n\"a b\"", []int{1, 0, 1, 2}, []int{0, 2, 4, 12})
	checkRefused(t, example(), "i E", probe.AtPlace(api.ErrName, 2))
	checkRefused(t, example(), "i\n\"i", probe.AtPlace(api.ErrSyntax, 4))
	checkRead(t, example(), "", nil, nil)
	checkWritten(t, example(), `i + "a b"`, 1, 0, 2)
	checkUnwritten(t, example(), probe.Bare(api.ErrArg), 1, 3)
	checkRead(t, probe.Read("S : a S b | a b"), "a a b b", []int{0, 0, 1, 1}, []int{0, 2, 4, 6})
}
