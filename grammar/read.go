package grammar

import (
	"iter"
	"strings"

	"quincunx/api"
	"quincunx/lexer"
)

// The places in a rule.
const (
	ahead  = iota // of its name: a text may end there
	behind        // its name: = is wanted
	within        // an alternative
)

// reader is the rules that were read, and the place behind the last word.
type reader struct {
	rules []api.Rule
	place int
}

// Parse reads the grammar that is all of s; beside ErrSyntax it tells the place.
func Parse(s string) (api.Grammar, int, api.Errno) {
	if len(s) > api.MaxText {
		return api.Grammar{}, 0, api.ErrLong
	}
	var r reader
	for at, word := range words(s) {
		if !r.take(word) {
			return api.Grammar{}, at, api.ErrSyntax
		}
	}
	if r.place != ahead || len(r.rules) == 0 {
		return api.Grammar{}, len(s), api.ErrSyntax
	}
	g := api.Grammar{Rules: r.rules}
	if isLong(g) {
		return api.Grammar{}, 0, api.ErrLong
	}
	return g, 0, api.OK
}

// take puts a word behind what was read, and tells whether it goes there.
func (r *reader) take(word string) bool {
	isName := lexer.IsName(word)
	switch {
	case r.place == ahead && isName:
		r.rules = append(r.rules, api.Rule{Name: word})
		r.place = behind
	case r.place == behind && word == "=":
		r.begin()
		r.place = within
	case r.place == within && isName:
		r.add(word)
	case r.place == within && word == "|":
		r.begin()
	case r.place == within && word == ";":
		r.place = ahead
	default:
		return false
	}
	return true
}

// begin begins an alternative of the last rule.
func (r *reader) begin() {
	last := &r.rules[len(r.rules)-1]
	last.Alts = append(last.Alts, nil)
}

// add puts a name at the end of the last alternative.
func (r *reader) add(name string) {
	alts := r.rules[len(r.rules)-1].Alts
	last := &alts[len(alts)-1]
	*last = append(*last, name)
}

// words goes through a text's words, each with the place where it begins: what looks like a name, or a byte alone, whichever it is.
func words(s string) iter.Seq2[int, string] {
	return func(yield func(int, string) bool) {
		at := blank(s, 0)
		for at < len(s) {
			end := wordEnd(s, at)
			if !yield(at, s[at:end]) {
				return
			}
			at = blank(s, end)
		}
	}
}

// blank is where the blanks and remarks end that begin at a place.
func blank(s string, at int) int {
	for at < len(s) {
		switch s[at] {
		case ' ', '\t', '\n', '\r':
			at++
		case '#':
			at = lineEnd(s, at)
		default:
			return at
		}
	}
	return at
}

// lineEnd is where the line ends in which a place is: at its byte 10, or at the text's end.
func lineEnd(s string, at int) int {
	if n := strings.IndexByte(s[at:], '\n'); n >= 0 {
		return at + n
	}
	return len(s)
}

// wordEnd is where the word ends that begins at a place. It is not held against how long a name may be: what is longer is one word, and no name.
func wordEnd(s string, at int) int {
	end := at + 1
	if !lexer.IsName(s[at:end]) {
		return end
	}
	for end < len(s) && lexer.IsName("_"+s[end:end+1]) {
		end++
	}
	return end
}
