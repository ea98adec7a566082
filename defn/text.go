package defn

import (
	"iter"
	"strings"

	"quincunx/api"
	"quincunx/grammar"
	"quincunx/lexer"
	"quincunx/regex"
)

// The words with which lines begin.
const (
	tokenWord   = "token"
	skipWord    = "skip"
	grammarWord = "grammar"
)

// Read reads the definition that is all of s; beside an error it tells the part, and the line, or the place in the grammar's text.
func Read(s string) (api.Defn, int, int, api.Errno) {
	if len(s) > api.MaxText {
		return api.Defn{}, api.InText, 0, api.ErrLong
	}
	var rules []api.LexRule
	n := 0
	for line, rest := range lines(s) {
		if line == grammarWord {
			return readGrammar(rules, rest)
		}
		if line != "" && line[0] != '#' {
			rule, is := readRule(line)
			if !is {
				return api.Defn{}, api.InText, n, api.ErrForm
			}
			rules = append(rules, rule)
		}
		n++
	}
	return api.Defn{}, api.InText, n, api.ErrForm
}

// readGrammar reads the grammar that stands behind a lexer's rules.
func readGrammar(rules []api.LexRule, s string) (api.Defn, int, int, api.Errno) {
	g, at, e := grammar.Parse(s)
	if e != api.OK {
		return api.Defn{}, api.InGrammar, at, e
	}
	return api.Defn{Rules: rules, G: g}, 0, 0, api.OK
}

// readRule reads a lexer's rule, and tells whether a line is one. What its name and its expression are is not looked at.
func readRule(line string) (api.LexRule, bool) {
	word, tail, _ := strings.Cut(line, " ")
	name, re, is := strings.Cut(tail, " ")
	if !is || word != tokenWord && word != skipWord {
		return api.LexRule{}, false
	}
	return api.LexRule{Name: name, Re: re, Skip: word == skipWord}, true
}

// lines goes through a text's lines, each with all that stands behind it.
func lines(s string) iter.Seq2[string, string] {
	return func(yield func(string, string) bool) {
		for left := s; left != ""; {
			line, rest, _ := strings.Cut(left, "\n")
			if !yield(line, rest) {
				return
			}
			left = rest
		}
	}
}

// Text is a definition's text: the one that all texts of it come to, if they are read and written.
func Text(d api.Defn) (string, api.Errno) {
	if _, _, e := lexer.Make(d.Rules); e != api.OK {
		return "", e
	}
	g, e := grammar.Text(d.G)
	if e != api.OK {
		return "", e
	}
	var b strings.Builder
	for _, rule := range d.Rules {
		b.WriteString(ruleText(rule))
	}
	b.WriteString(grammarWord + "\n" + g)
	return b.String(), api.OK
}

// ruleText is the line of a rule of which a lexer can be made: so its expression is read, and written.
func ruleText(rule api.LexRule) string {
	word := tokenWord
	if rule.Skip {
		word = skipWord
	}
	r, _, _ := regex.Parse(rule.Re)
	re, _ := regex.Text(r)
	return word + " " + rule.Name + " " + re + "\n"
}
