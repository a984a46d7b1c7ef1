package line

import (
	"errors"

	"dovetail/api"
	"dovetail/gram"
	"dovetail/words"
)

// reader takes a text, line by line.
type reader struct {
	// terms has the number of each terminal's name.
	terms map[string]int
	// start is where the line begins in the text.
	start int
	// tokens and places are those of the words ahead.
	tokens []int
	places []int
}

// readText answers a reader that has taken the whole text; with an error one that has taken nothing.
func readText(g api.Grammar, text string) (reader, error) {
	if err := gram.Check(g); err != nil {
		return reader{}, err
	}
	if len(text) > api.MaxText {
		return reader{}, api.ErrLong
	}
	r := reader{terms: numbers(g.Terms)}
	for _, line := range words.Lines(text) {
		if err := r.readLine(line); err != nil {
			return reader{}, inText(err, r.start)
		}
		r.start += len(line) + 1
	}
	return r, nil
}

func numbers(names []string) map[string]int {
	list := make(map[string]int, len(names))
	for n, name := range names {
		list[name] = n
	}
	return list
}

// inText puts a fault of the line that begins at start at its place in the text.
func inText(err error, start int) error {
	var fault *api.PlaceError
	if errors.As(err, &fault) {
		return &api.PlaceError{At: start + fault.At, Err: fault.Err}
	}
	return err
}

// readLine answers a fault with its place in the line.
func (r *reader) readLine(line string) error {
	list, err := words.Line(line)
	if err != nil {
		return err
	}
	for _, w := range list {
		if err := r.take(w); err != nil {
			return &api.PlaceError{At: w.At, Err: err}
		}
	}
	return nil
}

// take takes a word as the next token.
func (r *reader) take(w words.Word) error {
	if len(r.tokens) == api.MaxTokens {
		return api.ErrLong
	}
	token, ok := r.terms[w.Text]
	if !ok {
		return api.ErrName
	}
	r.tokens = append(r.tokens, token)
	r.places = append(r.places, r.start+w.At)
	return nil
}
