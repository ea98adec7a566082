package dfa

import (
	"quincunx/api"
	"quincunx/nfa"
)

// Build makes an automaton with one way of one with many: its states are sets of that one's.
func Build(n api.NFA) (api.DFA, api.Errno) {
	if e := nfa.Check(n); e != api.OK {
		return api.DFA{}, e
	}
	m := newMaker(n)
	m.find(m.closure(n.Start))
	var d api.DFA
	for i := 0; i < len(m.sets); i++ { // more are found on the way
		s := m.sets[i]
		d.Moves = append(d.Moves, m.moves(&s))
		d.Accept = append(d.Accept, accept(n.Ends, &s))
		if len(m.sets) > api.MaxStates {
			return api.DFA{}, api.ErrStates
		}
	}
	return d, api.OK
}

// accept is the least i whose ends[i] is in a set.
func accept(ends []int, s *set) int {
	for i, state := range ends {
		if s.has(state) {
			return i
		}
	}
	return none
}

// maker finds the sets of an automaton's states.
// What nfa.Step would say is put together from closures of single states, each asked for once: to ask for each set and byte would be to go through all edges as often.
type maker struct {
	byNone api.NFA      // the automaton without its edges by bytes: all that a closure hangs on
	leads  [][]api.Move // of each of its states where bytes lead, in any order
	closed []set        // of each of its states the closure, once it was asked for
	sets   []set        // those that were found
	found  map[set]int  // their numbers
	cuts   [257]bool    // bytes that some edge from the set at hand tells from the byte ahead
	behind [256]set     // what is behind that set by each of these bytes
}

func newMaker(n api.NFA) *maker {
	m := &maker{leads: make([][]api.Move, n.States), closed: make([]set, n.States), found: map[set]int{}}
	m.byNone = api.NFA{States: n.States, Start: n.Start}
	for _, e := range n.Edges {
		if len(e.Set) == 0 {
			m.byNone.Edges = append(m.byNone.Edges, e)
		}
		for _, s := range e.Set {
			m.leads[e.From] = append(m.leads[e.From], api.Move{Lo: s.Lo, Hi: s.Hi, To: e.To})
		}
	}
	return m
}

// closure is a state, and all that edges by none lead to from it.
func (m *maker) closure(state int) *set {
	s := &m.closed[state]
	if !s.has(state) {
		for _, x := range nfa.Close(m.byNone, []int{state}) {
			s.put(x)
		}
	}
	return s
}

// find is a set's number, a new one if it was not found ahead; none, if it has no state.
func (m *maker) find(s *set) int {
	if *s == (set{}) {
		return none
	}
	i, ok := m.found[*s]
	if !ok {
		i = len(m.sets)
		m.found[*s] = i
		m.sets = append(m.sets, *s)
	}
	return i
}

// moves are those of a set, as few as there can be.
func (m *maker) moves(from *set) []api.Move {
	m.step(from)
	var l []api.Move
	to := none
	for c := range 256 {
		if m.cuts[c] {
			to = m.find(&m.behind[c])
		}
		last := len(l) - 1
		switch {
		case to == none:
		case last >= 0 && l[last].To == to && int(l[last].Hi) == c-1:
			l[last].Hi = byte(c)
		default:
			l = append(l, api.Move{Lo: byte(c), Hi: byte(c), To: to})
		}
	}
	return l
}

// step finds the cuts of a set, and what is behind it by each of them.
func (m *maker) step(from *set) {
	clear(m.cuts[:])
	clear(m.behind[:])
	var all []api.Move
	for state, l := range m.leads {
		if from.has(state) {
			all = append(all, l...)
		}
	}
	for _, x := range all {
		m.cuts[x.Lo], m.cuts[int(x.Hi)+1] = true, true
	}
	for _, x := range all {
		m.lead(x)
	}
}

// lead puts the state to which bytes lead, and what edges by none lead to from it, behind those of the bytes that are cuts.
func (m *maker) lead(x api.Move) {
	for c := int(x.Lo); c <= int(x.Hi); c++ {
		if m.cuts[c] && !m.behind[c].has(x.To) { // a set that has a state has its closure
			m.behind[c].join(m.closure(x.To))
		}
	}
}

// set is a set of an automaton's states: a bit for each.
type set [(api.MaxStates + 63) / 64]uint64

func (s *set) has(state int) bool {
	return s[state/64]>>(state%64)&1 == 1
}

func (s *set) put(state int) {
	s[state/64] |= 1 << (state % 64)
}

// join puts all of o in.
func (s *set) join(o *set) {
	for i, x := range o {
		s[i] |= x
	}
}
