package nfa

import (
	"slices"

	"quincunx/api"
	"quincunx/regex"
)

// Build makes an automaton of expressions: the i-th one leads from its Start to the i-th of its Ends.
func Build(l []api.Re) (api.NFA, api.Errno) {
	states := 1
	for _, r := range l {
		if e := regex.Check(r); e != api.OK {
			return api.NFA{}, e
		}
		states += statesOf(r)
	}
	if states > api.MaxStates {
		return api.NFA{}, api.ErrStates
	}
	m := maker{api.NFA{States: 1}}
	for _, r := range l {
		m.n.Ends = append(m.n.Ends, m.build(r, m.n.Start))
	}
	return m.n, api.OK
}

// statesOf is how many states are new when an expression is made.
// It is asked ahead, so that nothing is made of what is too large.
func statesOf(r api.Re) int {
	states := 0
	for _, x := range r.L {
		states += statesOf(x)
	}
	switch r.Kind {
	case api.Empty, api.Set:
		states++
	case api.Alt:
		states += len(r.L) + 1
	case api.Star, api.Plus, api.Opt:
		states += 2
	}
	return states
}

// maker is an automaton that grows.
type maker struct{ n api.NFA }

// build makes an expression from a state, and tells the end.
func (m *maker) build(r api.Re, from int) int {
	switch r.Kind {
	case api.Cat:
		for _, x := range r.L {
			from = m.build(x, from)
		}
		return from
	case api.Alt:
		return m.buildAlt(r.L, from)
	case api.Star:
		begin, _ := m.buildLoop(r.L[0], from)
		return m.grow(begin, nil)
	case api.Plus:
		_, end := m.buildLoop(r.L[0], from)
		return m.grow(end, nil)
	case api.Opt:
		end := m.grow(m.build(r.L[0], m.grow(from, nil)), nil)
		m.link(from, end, nil)
		return end
	}
	return m.grow(from, r.Set) // an Empty has none
}

func (m *maker) buildAlt(l []api.Re, from int) int {
	var ends []int
	for _, x := range l {
		ends = append(ends, m.build(x, m.grow(from, nil)))
	}
	end := m.grow(ends[0], nil)
	for _, x := range ends[1:] {
		m.link(x, end, nil)
	}
	return end
}

// buildLoop makes an expression that leads from its end to its beginning, and tells both.
func (m *maker) buildLoop(r api.Re, from int) (begin, end int) {
	begin = m.grow(from, nil)
	end = m.build(r, begin)
	m.link(end, begin, nil)
	return begin, end
}

// grow makes a new state, and an edge to it.
func (m *maker) grow(from int, set []api.Span) int {
	state := m.n.States
	m.n.States++
	m.link(from, state, set)
	return state
}

// link lays an edge down. Its Set is its own: the expression is the caller's, who may change it.
func (m *maker) link(from, to int, set []api.Span) {
	m.n.Edges = append(m.n.Edges, api.Edge{From: from, To: to, Set: slices.Clone(set)})
}
