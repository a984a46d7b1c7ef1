package line_test

import (
	"errors"
	"slices"
	"strings"
	"testing"

	"dovetail/api"
	"dovetail/gram"
	"dovetail/line"
	"dovetail/probe"
	"dovetail/words"
)

// reading is what a text is to be read as, as the chapter's words say it.
type reading struct {
	tokens, places []int
	fault          probe.Fault
}

func refused(fault probe.Fault) reading { return reading{fault: fault} }

// readingOf takes the words of each line, and looks at them from the text's beginning on.
func readingOf(g api.Grammar, text string) reading {
	if err := gram.Check(g); err != nil {
		return refused(probe.FaultOf(err))
	}
	if len(text) > 1<<20 {
		return refused(probe.Bare(api.ErrLong))
	}
	r := reading{fault: probe.Bare(nil)}
	start := 0
	for _, s := range strings.Split(text, "\n") {
		list, err := words.Line(s)
		var p *api.PlaceError
		if errors.As(err, &p) {
			return refused(probe.AtPlace(api.ErrSyntax, start+p.At))
		}
		for _, w := range list {
			token := slices.Index(g.Terms, w.Text)
			if len(r.tokens) >= 65536 {
				return refused(probe.AtPlace(api.ErrLong, start+w.At))
			}
			if token < 0 {
				return refused(probe.AtPlace(api.ErrName, start+w.At))
			}
			r.tokens = append(r.tokens, token)
			r.places = append(r.places, start+w.At)
		}
		start += len(s) + 1
	}
	return r
}

// writtenOf is what tokens are to be written as: the text, or the fault.
func writtenOf(g api.Grammar, tokens []int) (string, probe.Fault) {
	if err := gram.Check(g); err != nil {
		return "", probe.FaultOf(err)
	}
	if len(tokens) > 65536 {
		return "", probe.Bare(api.ErrLong)
	}
	text := ""
	for i, token := range tokens {
		if !slices.Contains(probe.UpTo(len(g.Terms)), token) {
			return "", probe.Bare(api.ErrArg)
		}
		if i > 0 {
			text += " "
		}
		if name := g.Terms[token]; words.Plain(name) {
			text += name
		} else {
			text += words.Quote(name)
		}
	}
	if len(text) > 1<<20 {
		return "", probe.Bare(api.ErrLong)
	}
	return text, probe.Bare(nil)
}

// brief is the beginning of a list, as a fault is told of it.
func brief(list []int) []int { return list[:min(len(list), 40)] }

// The checks of one text, one list of tokens

// checkRead wants these tokens of Read, these places of Places.
func checkRead(t *testing.T, g api.Grammar, text string, tokens, places []int) {
	t.Helper()
	if got, err := line.Read(g, text); err != nil || !slices.Equal(got, tokens) {
		t.Errorf("Read of %.200q: %v %v, want %v", text, brief(got), err, brief(tokens))
	}
	if got, err := line.Places(g, text); err != nil || !slices.Equal(got, places) {
		t.Errorf("Places of %.200q: %v %v, want %v", text, brief(got), err, brief(places))
	}
}

// checkRefused wants an error of both that tells just this, and nothing beside it.
func checkRefused(t *testing.T, g api.Grammar, text string, want probe.Fault) {
	t.Helper()
	if got, err := line.Read(g, text); probe.FaultOf(err) != want || len(got) != 0 {
		t.Errorf("Read of %.200q: %d tokens, %v, want %v", text, len(got), err, want)
	}
	if got, err := line.Places(g, text); probe.FaultOf(err) != want || len(got) != 0 {
		t.Errorf("Places of %.200q: %d places, %v, want %v", text, len(got), err, want)
	}
}

// checkAsRead holds both against what the chapter's words make of a text, and answers that.
func checkAsRead(t *testing.T, g api.Grammar, text string) reading {
	t.Helper()
	want := readingOf(g, text)
	if want.fault.Which == nil {
		checkRead(t, g, text, want.tokens, want.places)
	} else {
		checkRefused(t, g, text, want.fault)
	}
	return want
}

func checkWritten(t *testing.T, g api.Grammar, want string, tokens ...int) {
	t.Helper()
	if got, err := line.Write(g, tokens); err != nil || got != want {
		t.Errorf("Write of %v: %.200q %v, want %.200q", brief(tokens), got, err, want)
	}
}

func checkUnwritten(t *testing.T, g api.Grammar, want probe.Fault, tokens ...int) {
	t.Helper()
	if got, err := line.Write(g, tokens); probe.FaultOf(err) != want || got != "" {
		t.Errorf("Write of %d tokens: %d bytes, %v, want %v", len(tokens), len(got), err, want)
	}
}

// Grammars, and their names in texts

// example is G of the chapter.
func example() api.Grammar {
	return api.Grammar{Terms: []string{"+", "i", "a b"}, Nonterms: []string{"E"}}
}

// strange has terminals of names of all kinds.
func strange() api.Grammar {
	return api.Grammar{
		Terms: []string{
			"a", "b", "aa", "A", "E", ":", "|", "$", "?", "#", "#a", "a#", "\"", "\"a\"", "\\", "\\n", "n", "\n", "\t", " ", "a b", " a",
			"\x00", "\x7f", "\x80", "\xff", "é", "\\x41", "\r", strings.Repeat("x", 32), strings.Repeat("\xff", 32), strings.Repeat("\"", 32),
		},
		Nonterms: []string{"E", "S"},
		Rules:    []api.Rule{probe.Rule(0, -1, 0, -2), probe.Rule(1, 3)},
	}
}

// inQuotes is a name in quotes, each byte as it is, where it may be, or as one of its escapes.
func inQuotes(n *probe.Numbers, name string) string {
	const digits = "0123456789ABCDEF"
	text := `"`
	for _, c := range []byte(name) {
		hex := `\x` + string([]byte{digits[c>>4], digits[c&15]})
		switch c {
		case '"', '\\':
			text += n.One(`\`+string([]byte{c}), hex)
		case '\n':
			text += n.One(`\n`, hex)
		default:
			text += n.One(string([]byte{c}), hex)
		}
	}
	return text + `"`
}

// asWord is a name as one of the words that stand for it.
func asWord(n *probe.Numbers, name string) string {
	if words.Plain(name) && n.Below(2) == 0 {
		return name
	}
	return inQuotes(n, name)
}

// mixedTokens are tokens of a grammar that has terminals.
func mixedTokens(n *probe.Numbers, g api.Grammar, size int) []int {
	list := make([]int, size)
	for i := range list {
		list[i] = n.Below(len(g.Terms))
	}
	return list
}

// laidOut is a text of those tokens in any layout, and the places of their words.
func laidOut(n *probe.Numbers, g api.Grammar, tokens []int) (string, []int) {
	var text strings.Builder
	var places []int
	text.WriteString(n.One("", " ", "\n", "# i\n", "\t#\"\n\n"))
	for i, token := range tokens {
		if i > 0 {
			text.WriteString(n.One(" ", " ", "\t", "  ", " \t ", "\n", "\n", " \n", "\n ", "\n\n\n", " # i\n", "\t#\x80\"\n \t", "\n#i\n #\n"))
		}
		places = append(places, text.Len())
		text.WriteString(asWord(n, g.Terms[token]))
	}
	text.WriteString(n.One("", " ", "\t\t", "\n", " \n", "\n\n", " # i", "\n# i\n"))
	return text.String(), places
}

// mixedText is a text in which words, faults and whatever parts them follow each other.
func mixedText(n *probe.Numbers, g api.Grammar) string {
	var text strings.Builder
	for range n.Below(14) {
		switch n.Below(40) {
		case 0:
			text.WriteString(n.One("\"", "\x80", "\x00", "\"\\q\"", "i\"", "\"\"i", "\"i\n\""))
		case 1:
			text.WriteString(n.One("E ", "I ", "ii ", "\"\" ", "\"E\" ", "\"a  b\" ", "a b ", ": ", "$ "))
		case 2, 3:
			text.WriteString(n.One("# \"E\n", "#", "#\x80\n"))
		default:
			text.WriteString(asWord(n, g.Terms[n.Below(len(g.Terms))]))
			text.WriteString(n.One(" ", " ", "  ", "\t", "\n", "\n", "\n\n"))
		}
	}
	return text.String()
}

// manyTexts are short texts of some pieces, and mixed ones, as example's and as other grammars'.
func manyTexts() []string {
	list := probe.Texts(5, "i ", "+\t", "\"a b\" ", "E ", "\n", "\"", "#")
	list = append(list, probe.Texts(6, "i", "+", " ", "\n", "\"")...)
	var n probe.Numbers
	for range 20000 {
		list = append(list, mixedText(&n, example()))
	}
	return list
}
