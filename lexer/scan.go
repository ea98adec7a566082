package lexer

import (
	"quincunx/api"
	"quincunx/dfa"
)

// Scan cuts a text into tokens; beside an error it tells the place where none begins.
func Scan(x api.Lexer, s string) ([]api.Tok, int, api.Errno) {
	c := cutter{d: x.D, s: s, met: map[spot]struct{}{}}
	var l []api.Tok
	for at := 0; at < len(s); {
		tok := c.longest(at)
		if tok.Len == 0 {
			return nil, at, api.ErrToken
		}
		if !isSkipped(x, tok.Rule) {
			l = append(l, tok)
		}
		at += tok.Len
	}
	return l, 0, api.OK
}

// isSkipped tells whether a rule's tokens are passed over.
func isSkipped(x api.Lexer, rule int) bool {
	return rule < len(x.Skip) && x.Skip[rule]
}

// spot is a place in a text, and the state in which one comes there.
type spot struct{ state, at int }

// spacing is how far apart the places are at which spots are kept: those of all places would take too much room.
const spacing = 256

// cutter is a text that is cut.
// Behind a token all that is left of the text may be gone through in vain, and again behind the next one. So spots are kept: behind one that is met again nothing is accepted, for else the token at hand the first time would have gone beyond it.
type cutter struct {
	d   api.DFA
	s   string
	met map[spot]struct{}
}

// longest is the longest token at a place; its Len is 0, if there is none.
func (c *cutter) longest(at int) api.Tok {
	tok := api.Tok{At: at}
	state := 0
text:
	for i := at; i < len(c.s); i++ {
		if c.meet(spot{state, i}) {
			break text
		}
		state = dfa.Next(c.d, state, c.s[i])
		switch rule := accepted(c.d, state); {
		case state == none:
			break text
		case rule != none:
			tok.Rule, tok.Len = rule, i+1-at
		}
	}
	return tok
}

// meet keeps a spot, if it is one of those that are kept, and tells whether it was met ahead.
func (c *cutter) meet(x spot) bool {
	if x.at%spacing != 0 {
		return false
	}
	_, is := c.met[x]
	c.met[x] = struct{}{}
	return is
}

// accepted is the rule that is accepted in a state.
func accepted(d api.DFA, state int) int {
	if state < 0 || state >= len(d.Accept) || d.Accept[state] < 0 {
		return none
	}
	return d.Accept[state]
}
