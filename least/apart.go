package least

import (
	"slices"

	"quincunx/api"
	"quincunx/dfa"
)

// Apart is the first text that comes to something else in a than in b.
func Apart(a, b api.DFA) (string, bool, api.Errno) {
	if dfa.Check(a) != api.OK || dfa.Check(b) != api.OK {
		return "", false, api.ErrAuto
	}
	s := newSearch(a, b)
	for i := 0; i < len(s.pairs); i++ { // more are found on the way
		p := s.pairs[i]
		if accept(a, p.a) != accept(b, p.b) {
			return s.text(i), true, api.OK
		}
		for c := range 256 {
			s.reach(pair{dfa.Next(a, p.a, byte(c)), dfa.Next(b, p.b, byte(c)), byte(c), i})
		}
	}
	return "", false, api.OK
}

// accept is what is accepted in a state, or in none.
func accept(d api.DFA, state int) int {
	if state == none {
		return none
	}
	return d.Accept[state]
}

// pair is a state of each automaton, or none, to which one text leads: that of the pair ahead, and a byte more.
type pair struct {
	a, b  int
	by    byte
	ahead int
}

// search has the pairs to which texts lead, in the order of these: shorter ones first, and of one length byte by byte.
// States that stood in one pair are joined, and a pair whose states are joined already is passed over: a text that tells those apart tells also the states of one of the pairs apart by which they were joined, and the text that leads to that one comes ahead of this one's. So there are no more pairs than states.
type search struct {
	joined []int // of each state (a's, b's, and none) another one that it is joined with, or itself
	behind int   // where b's begin
	pairs  []pair
}

func newSearch(a, b api.DFA) *search {
	s := &search{joined: make([]int, len(a.Moves)+len(b.Moves)+1), behind: len(a.Moves)}
	for i := range s.joined {
		s.joined[i] = i
	}
	s.reach(pair{ahead: none})
	return s
}

// reach keeps a pair, if its states are not joined, and joins them.
func (s *search) reach(p pair) {
	x, y := len(s.joined)-1, len(s.joined)-1 // that of none, which is the same in both
	if p.a != none {
		x = p.a
	}
	if p.b != none {
		y = s.behind + p.b
	}
	x, y = s.root(x), s.root(y)
	if x != y {
		s.joined[x] = y
		s.pairs = append(s.pairs, p)
	}
}

// root is the one of the states joined with a state that stands for all of them.
func (s *search) root(state int) int {
	for s.joined[state] != state {
		s.joined[state] = s.joined[s.joined[state]] // a shorter way for the next time
		state = s.joined[state]
	}
	return state
}

// text is the one that leads to a pair.
func (s *search) text(i int) string {
	var l []byte
	for ; s.pairs[i].ahead != none; i = s.pairs[i].ahead {
		l = append(l, s.pairs[i].by)
	}
	slices.Reverse(l)
	return string(l)
}
