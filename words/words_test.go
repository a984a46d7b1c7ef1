package words_test

import (
	"errors"
	"regexp"
	"slices"
	"strings"
	"testing"
	"unsafe"

	"dovetail/api"
	"dovetail/probe"
	"dovetail/words"
)

// plain, quoted: a word as Line answers it.
func plain(text string, at int) words.Word  { return words.Word{Text: text, At: at} }
func quoted(text string, at int) words.Word { return words.Word{Text: text, Quoted: true, At: at} }

// shortLines are lines of which many are wrong, in many ways.
func shortLines() []string {
	return probe.Texts(5, "a", "#", "\"", "\\", "n", "x", "0", " ", "\n", "\x80")
}

// placeOf is the place that an error tells, or -1, if it isn't just ErrSyntax with a place.
func placeOf(err error) int {
	var p *api.PlaceError
	if !errors.As(err, &p) || !errors.Is(err, api.ErrSyntax) || errors.Is(err, api.ErrLong) {
		return -1
	}
	return p.At
}

func checkLine(t *testing.T, s string, want ...words.Word) {
	t.Helper()
	if got, err := words.Line(s); err != nil || !slices.Equal(got, want) {
		t.Errorf("Line(%q): %#v %v, want %#v", s, got, err, want)
	}
}

func checkWrong(t *testing.T, s string, at int) {
	t.Helper()
	if got, err := words.Line(s); len(got) != 0 || placeOf(err) != at {
		t.Errorf("Line(%q): %#v %v, want ErrSyntax at %d", s, got, err, at)
	}
}

// P2.1

func TestLineOfPlainWords(t *testing.T) {
	checkLine(t, "")
	checkLine(t, " \t \t")
	checkLine(t, "a", plain("a", 0))
	checkLine(t, "\t ab  c\td ", plain("ab", 2), plain("c", 6), plain("d", 8))
	checkLine(t, "!~ |\\ 'x'", plain("!~", 0), plain("|\\", 3), plain("'x'", 6))
	checkLine(t, "a\\n \\x00", plain("a\\n", 0), plain("\\x00", 4))
}

func TestLineTakesEachPlainByte(t *testing.T) {
	for c := range 256 {
		s := "a" + string([]byte{byte(c)}) + "b"
		switch {
		case c == 32 || c == 9:
			checkLine(t, s, plain("a", 0), plain("b", 2))
		case c > 32 && c < 127 && c != '"':
			checkLine(t, s, plain(s, 0))
		default:
			checkWrong(t, s, 1)
		}
	}
}

func TestLineBeginsAWordWithEachByte(t *testing.T) {
	for c := range 256 {
		s := " " + string([]byte{byte(c)})
		switch {
		case c == 32 || c == 9 || c == '#':
			checkLine(t, s)
		case c == '"':
			checkWrong(t, s, 2)
		case c > 32 && c < 127:
			checkLine(t, s, plain(s[1:], 1))
		default:
			checkWrong(t, s, 1)
		}
	}
}

func TestLineOfComments(t *testing.T) {
	checkLine(t, "#")
	checkLine(t, "# a b")
	checkLine(t, "\t#a")
	checkLine(t, "a #b", plain("a", 0))
	checkLine(t, "a#b", plain("a#b", 0))
	checkLine(t, "a#b #c d", plain("a#b", 0))
	checkLine(t, "\"a\" #", quoted("a", 0))
	checkLine(t, "\"#\" #", quoted("#", 0))
	checkWrong(t, "\"a\"#b", 3)
	for c := range 256 {
		checkLine(t, "a #"+string([]byte{byte(c)})+"\"b", plain("a", 0))
	}
}

func TestLineOfQuotedWords(t *testing.T) {
	checkLine(t, "\"\"", quoted("", 0))
	checkLine(t, " \"a b\"\t\"c\" ", quoted("a b", 1), quoted("c", 7))
	checkLine(t, `"\"\\\n"`, quoted("\"\\\n", 0))
	checkLine(t, `"\\n"`, quoted("\\n", 0))
	checkLine(t, `"\x00\xFF\x0A\x22x41\x41"`, quoted("\x00\xff\n\"x41A", 0))
	for c := range 256 {
		b := string([]byte{byte(c)})
		switch b {
		case "\"", "\\", "\n":
		default:
			checkLine(t, "\"a"+b+"b\" c", quoted("a"+b+"b", 0), plain("c", 6))
		}
	}
}

func TestLineOfEscapes(t *testing.T) {
	for c := range 256 {
		b := string([]byte{byte(c)})
		switch b {
		case "\"", "\\":
			checkLine(t, "\"\\"+b+"\"", quoted(b, 0))
		case "n":
			checkLine(t, "\"\\n\"", quoted("\n", 0))
		default:
			checkWrong(t, "\"ab\\"+b+"\"", 3)
		}
	}
}

func TestLineOfEscapesInSixteens(t *testing.T) {
	const digits = "0123456789ABCDEF"
	for c := range 256 {
		for d := range 256 {
			s := "\"\\x" + string([]byte{byte(c), byte(d)}) + "\""
			high, low := strings.IndexByte(digits, byte(c)), strings.IndexByte(digits, byte(d))
			if high < 0 || low < 0 {
				checkWrong(t, s, 1)
			} else {
				checkLine(t, s, quoted(string([]byte{byte(16*high + low)}), 0))
			}
		}
	}
}

func TestLineWrongInQuotedWords(t *testing.T) {
	checkWrong(t, "\"", 1)
	checkWrong(t, "ab \"cd", 6)
	checkWrong(t, "\"a b # c ", 9)
	checkWrong(t, "\"a\nb\"", 2)
	checkWrong(t, "\"a\n", 2)
	checkWrong(t, "\"\"\"", 2)
	checkWrong(t, "\"a\"b", 3)
	checkWrong(t, "\"a\"\n", 3)
	checkWrong(t, "\"a\"\x00 \"", 3)
	// A line that ends within an escape: none begins with the backslash.
	checkWrong(t, "\"\\", 1)
	checkWrong(t, "\"a\\x", 2)
	checkWrong(t, "\"a\\x4", 2)
	checkWrong(t, "\"\\x4\"", 1)
}

func TestLineTellsTheFirstWrongByte(t *testing.T) {
	checkWrong(t, "a\" \x80", 1)
	checkWrong(t, "a \"b\\q\" \x80", 4)
	checkWrong(t, "\x80 \"", 0)
	checkWrong(t, "\"\\q\n", 1)
}

func TestLineOfLongLines(t *testing.T) {
	full := strings.Repeat("a", api.MaxText)
	checkLine(t, full, plain(full, 0))
	for _, s := range []string{full + "a", full + " ", "#" + full, "\x80" + full, "\"" + full} {
		got, err := words.Line(s)
		if len(got) != 0 || !errors.Is(err, api.ErrLong) || errors.Is(err, api.ErrSyntax) {
			t.Errorf("a line of %d bytes: %d words, %v", len(s), len(got), err)
		}
	}
	many := strings.Repeat("b ", api.MaxText/2)
	if got, err := words.Line(many); err != nil || len(got) != api.MaxText/2 || got[len(got)-1] != plain("b", api.MaxText-2) {
		t.Errorf("a line of %d words: %d, %v", api.MaxText/2, len(got), err)
	}
}

// The chapter's definitions, as patterns.
const (
	plainWord  = `[!$-~][!#-~]*`
	quotedWord = `"(?:[^"\\\n]|\\["\\n]|\\x[0-9A-F][0-9A-F])*"`
	anyWord    = `(?:` + plainWord + `|` + quotedWord + `)`
)

// rightPlace tells where a line goes wrong: behind its longest beginning that a right line can begin with; or -1.
func rightPlace(right *regexp.Regexp, s string) int {
	if right.MatchString(s) {
		return -1
	}
	for k := len(s); k > 0; k-- {
		if right.MatchString(s[:k]) || right.MatchString(s[:k]+"\"") {
			return k
		}
		// Within an escape the place is its backslash's.
		if right.MatchString(s[:k]+"n\"") || right.MatchString(s[:k]+"0\"") {
			return strings.LastIndexByte(s[:k], '\\')
		}
	}
	return 0
}

func TestLineTakesJustRightLines(t *testing.T) {
	right := regexp.MustCompile(`(?s)^[ \t]*(?:` + anyWord + `[ \t]+)*(?:` + anyWord + `|#.*)?$`)
	for _, s := range shortLines() {
		got, err := words.Line(s)
		want := rightPlace(right, s)
		if want >= 0 && (len(got) != 0 || placeOf(err) != want) {
			t.Errorf("Line(%q): %#v %v, want ErrSyntax at %d", s, got, err, want)
		}
		if want < 0 && err != nil {
			t.Errorf("Line(%q): %v", s, err)
		}
	}
}

// P2.2

func TestPlain(t *testing.T) {
	for _, s := range probe.Texts(4, "a", "#", "\"", "\\", " ", "\t", "\n", "\x1f", "\x7f", "\x80", "~", "!") {
		l, err := words.Line(s)
		want := err == nil && len(l) == 1 && l[0] == plain(s, 0)
		if got := words.Plain(s); got != want {
			t.Errorf("Plain(%q): %v", s, got)
		}
	}
	for c := range 256 {
		b := string([]byte{byte(c)})
		good := c > 32 && c < 127 && c != '"'
		if words.Plain(b) != (good && c != '#') || words.Plain("a"+b) != good || words.Plain(b+"a") != (good && c != '#') {
			t.Errorf("Plain with the byte %d", c)
		}
	}
	if long := strings.Repeat("a", api.MaxText+1); !words.Plain(long) || words.Plain(long+" ") {
		t.Error("Plain of a long word")
	}
}

// P2.3

func TestQuote(t *testing.T) {
	const digits = "0123456789ABCDEF"
	for c := range 256 {
		b := string([]byte{byte(c)})
		want := b
		switch {
		case c == '"':
			want = `\"`
		case c == '\\':
			want = `\\`
		case c == 10:
			want = `\n`
		case c < 32 || c >= 127:
			want = `\x` + digits[c/16:c/16+1] + digits[c%16:c%16+1]
		}
		if got := words.Quote("a" + b + "b" + b); got != `"a`+want+"b"+want+`"` {
			t.Errorf("Quote with the byte %d: %s", c, got)
		}
	}
	for s, want := range map[string]string{"": `""`, "é": `"\xC3\xA9"`, "a b": `"a b"`, "\t#": `"\x09#"`} {
		if got := words.Quote(s); got != want {
			t.Errorf("Quote(%q): %s", s, got)
		}
	}
}

// P2.4

func TestWrite(t *testing.T) {
	cases := []struct {
		list []words.Word
		want string
	}{
		{nil, ""},
		{[]words.Word{}, ""},
		{[]words.Word{plain("a", 0)}, "a"},
		{[]words.Word{quoted("a", 0)}, `"a"`},
		{[]words.Word{plain("", 0)}, `""`},
		{[]words.Word{plain("", 0), plain("", 0)}, `"" ""`},
		{[]words.Word{plain("#a", 0), plain("a#", 0)}, `"#a" a#`},
		{[]words.Word{plain("a b", 0), plain("\n", 0), plain("\"", 0)}, `"a b" "\n" "\""`},
		{[]words.Word{plain("a", -4), quoted("b", 99), plain("c", 1)}, `a "b" c`},
		{[]words.Word{plain("\\", 0), quoted("\\", 0)}, `\ "\\"`},
		{[]words.Word{plain("é", 0)}, `"\xC3\xA9"`},
	}
	for _, c := range cases {
		if got := words.Write(c.list...); got != c.want {
			t.Errorf("Write(%#v): %s, want %s", c.list, got, c.want)
		}
	}
}

// P2.5

func collect(s string) (numbers []int, lines []string) {
	for n, line := range words.Lines(s) {
		numbers = append(numbers, n)
		lines = append(lines, line)
	}
	return numbers, lines
}

func TestLines(t *testing.T) {
	for _, s := range probe.Texts(6, "a", "\n", "\r", "\x00") {
		want := strings.Split(s, "\n")
		if want[len(want)-1] == "" {
			want = want[:len(want)-1]
		}
		numbers, lines := collect(s)
		if !slices.Equal(lines, want) {
			t.Errorf("Lines(%q): %q, want %q", s, lines, want)
		}
		for i, n := range numbers {
			if n != i+1 {
				t.Errorf("Lines(%q): numbers %v", s, numbers)
			}
		}
	}
	for range words.Lines("") {
		t.Error("the empty text has a line")
	}
	if _, lines := collect("a\xe2\x80\xa8b\vc\fd\r\ne"); len(lines) != 2 {
		t.Errorf("lines that no byte 10 parts: %q", lines)
	}
}

func TestLinesLeftEarlyAndGoneOverAgain(t *testing.T) {
	walk := words.Lines("a\n\nb\n")
	want := []string{"a", "", "b"}
	for stop := range want {
		var got []string
		for n, line := range walk {
			got = append(got, line)
			if n == stop+1 {
				break
			}
		}
		if !slices.Equal(got, want[:stop+1]) {
			t.Errorf("left after %d: %q", stop+1, got)
		}
	}
	calls := 0
	walk(func(int, string) bool { calls++; return false })
	if calls != 1 {
		t.Errorf("asked %d times after it was left", calls)
	}
}

func TestLinesInsideItself(t *testing.T) {
	walk := words.Lines("a\nb")
	got := ""
	for n, outer := range walk {
		for m, inner := range walk {
			got += strings.Repeat(outer, n) + strings.Repeat(inner, m) + " "
		}
	}
	if got != "aa abb bba bbbb " {
		t.Errorf("one walk inside the other: %s", got)
	}
}

// P2.6

func TestThereAndBack(t *testing.T) {
	parts := probe.Texts(2, "a", "#", "\"", "\\", " ", "\n", "\x00", "\xff", "x0")
	for i, s := range parts {
		other := parts[(i*7+3)%len(parts)]
		list := []words.Word{plain(s, 5), quoted(other, 1), plain(other, -1), quoted(s, 0), plain("b", 0)}
		got, err := words.Line(words.Write(list...))
		if err != nil || len(got) != len(list) {
			t.Fatalf("Line(Write(%#v)): %#v %v", list, got, err)
		}
		for k, w := range list {
			if got[k].Text != w.Text || got[k].Quoted != (w.Quoted || !words.Plain(w.Text)) {
				t.Errorf("Line(Write(%#v)): %#v", list, got)
			}
		}
	}
}

func TestLineOfAWrittenLine(t *testing.T) {
	for _, s := range shortLines() {
		first, err := words.Line(s)
		if err != nil {
			continue
		}
		again, err := words.Line(words.Write(first...))
		same := func(v, w words.Word) bool { return v.Text == w.Text && v.Quoted == w.Quoted }
		if err != nil || !slices.EqualFunc(first, again, same) {
			t.Errorf("Line(%q), written: %#v %v, was %#v", s, again, err, first)
		}
	}
}

func TestWriteOfWhatIsTooLong(t *testing.T) {
	long := strings.Repeat("a", api.MaxText)
	if _, err := words.Line(words.Write(plain(long, 0))); err != nil {
		t.Errorf("a word as long as a line may be: %v", err)
	}
	if l, err := words.Line(words.Write(quoted(long, 0))); !errors.Is(err, api.ErrLong) || len(l) != 0 {
		t.Errorf("the same word in quotes: %v", err)
	}
}

// P2.7

func TestPlaces(t *testing.T) {
	for _, s := range shortLines() {
		list, err := words.Line(s)
		if err != nil && (placeOf(err) < 0 || placeOf(err) > len(s)) {
			t.Errorf("Line(%q): %v", s, err)
		}
		last := -1
		for _, w := range list {
			if w.At <= last || w.At >= len(s) || (s[w.At] == '"') != w.Quoted {
				t.Errorf("Line(%q): places of %#v", s, list)
			}
			if !w.Quoted && !strings.HasPrefix(s[w.At:], w.Text) {
				t.Errorf("Line(%q): no %q at %d", s, w.Text, w.At)
			}
			last = w.At
		}
	}
}

func TestWhatStandsBehindChangesNothing(t *testing.T) {
	lines := probe.Texts(3, "a", "#", "\"", "\\", " ", "\n", "\x80")
	for _, s := range lines {
		ahead, err := words.Line(s)
		if err != nil {
			continue
		}
		for _, behind := range lines {
			checkBehind(t, s, behind, ahead)
		}
	}
}

func checkBehind(t *testing.T, s, behind string, ahead []words.Word) {
	for _, blank := range []string{" ", "\t"} {
		all, err := words.Line(s + blank + behind)
		if err != nil && placeOf(err) <= len(s) {
			t.Errorf("%q goes wrong at %d with %q behind it", s, placeOf(err), behind)
		}
		if err == nil && (len(all) < len(ahead) || !slices.Equal(all[:len(ahead)], ahead)) {
			t.Errorf("%q: %#v with %q behind it", s, all, behind)
		}
	}
}

// P2.8

func TestWriteLeavesWhatIsHandedIn(t *testing.T) {
	room := []words.Word{plain("a b", 3), quoted("c", 4), plain("x", 5), plain("y", 6)}
	before := slices.Clone(room)
	text := words.Write(room[:2]...)
	if !slices.Equal(room, before) {
		t.Errorf("Write changed its list, or the room behind it: %#v", room)
	}
	room[0] = plain("z", 0)
	if text != `"a b" "c"` {
		t.Error("Write kept its list")
	}
}

func TestLineIsNewMemory(t *testing.T) {
	const s = `a "b" c d e`
	want, _ := words.Line(s)
	want = slices.Clone(want)
	first, _ := words.Line(s)
	second, _ := words.Line(s)
	room := first[:cap(first)]
	for i := range room {
		room[i] = quoted("spoilt", -1)
	}
	third, _ := words.Line(s)
	if !slices.Equal(second, want) || !slices.Equal(third, want) {
		t.Error("lists of Line share memory")
	}
	longer, other := append(second, plain("p", 0)), append(third, plain("q", 0))
	if longer[len(want)].Text != "p" || other[len(want)].Text != "q" {
		t.Error("lists of Line share the room behind them")
	}
}

// within tells whether a part lies in the memory of s.
func within(part, s string) bool {
	from := uintptr(unsafe.Pointer(unsafe.StringData(s)))
	at := uintptr(unsafe.Pointer(unsafe.StringData(part)))
	return part != "" && at >= from && at < from+uintptr(len(s))
}

func TestAnswersHoldNoneOfTheText(t *testing.T) {
	s := strings.Repeat("plain \"quoted\" ", 3)
	list, err := words.Line(s)
	if err != nil || len(list) != 6 {
		t.Fatalf("Line: %#v %v", list, err)
	}
	for _, w := range list {
		if within(w.Text, s) {
			t.Errorf("the word at %d lies in the line", w.At)
		}
	}
	if within(words.Write(plain(s[:5], 0)), s) {
		t.Error("a written word lies in the word's text")
	}
	text := s + "\n" + s
	for n, line := range words.Lines(text) {
		if within(line, text) {
			t.Errorf("line %d lies in the text", n)
		}
	}
}

// TestExamples is the table of chapter 2.
func TestExamples(t *testing.T) {
	checkLine(t, `e : e + "t" # no`, plain("e", 0), plain(":", 2), plain("e", 4), plain("+", 6), quoted("t", 8))
	checkLine(t, "a#b #c", plain("a#b", 0))
	checkLine(t, `"" "a\x00\n\"" \`, quoted("", 0), quoted("a\x00\n\"", 3), plain("\\", 15))
	checkWrong(t, "ab\"c", 2)
	checkWrong(t, "\"a\"b", 3)
	checkWrong(t, "\"a", 2)
	checkWrong(t, "\"\\q\"", 1)
	checkWrong(t, "a\x80", 1)
	for s, want := range map[string]bool{"ab": true, "#a": false, "a b": false, "": false} {
		if words.Plain(s) != want {
			t.Errorf("example: Plain(%q)", s)
		}
	}
	if got := words.Quote("a\xff\""); got != `"a\xFF\""` {
		t.Errorf("example: Quote: %s", got)
	}
	if got := words.Write(plain("a", 0), plain("a b", 0), quoted("c", 0)); got != `a "a b" "c"` {
		t.Errorf("example: Write: %s", got)
	}
	if numbers, lines := collect("a\n\nb"); !slices.Equal(numbers, []int{1, 2, 3}) || !slices.Equal(lines, []string{"a", "", "b"}) {
		t.Errorf("example: Lines: %v %q", numbers, lines)
	}
	if numbers, lines := collect("a\n"); !slices.Equal(numbers, []int{1}) || !slices.Equal(lines, []string{"a"}) {
		t.Errorf("example: Lines: %v %q", numbers, lines)
	}
}
