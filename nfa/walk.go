package nfa

import (
	"iter"
	"slices"

	"quincunx/api"
)

// Close is a set of states, and all that edges by none lead to from there.
func Close(n api.NFA, set []int) []int {
	if !linked(n) || !hasStates(n, set) {
		return nil
	}
	return rising(newWalker(n).closed(set))
}

// Step is the states, closed, to which a byte leads from a set that is closed ahead.
func Step(n api.NFA, set []int, c byte) []int {
	if !linked(n) || !hasStates(n, set) {
		return nil
	}
	w := newWalker(n)
	return rising(w.step(w.closed(set), c))
}

// Run is which expressions match all of s: the numbers of the Ends that it leads to.
func Run(n api.NFA, s string) []int {
	if !linked(n) {
		return nil
	}
	w := newWalker(n)
	set := w.closed([]int{n.Start})
	for i := 0; i < len(s) && len(set) > 0; i++ {
		set = w.step(set, s[i])
	}
	var out []int
	for i, state := range n.Ends {
		if w.met[state] == w.round {
			out = append(out, i)
		}
	}
	return out
}

func rising(set []int) []int {
	slices.Sort(set)
	return set
}

// none is no edge.
const none = -1

// walker goes through an automaton all of whose edges are between its states.
type walker struct {
	edges []api.Edge
	first []int       // of each state an edge from it
	next  []int       // of each edge another one from the same state
	round int         // how many sets were closed
	met   map[int]int // the round in which a state was met last
}

func newWalker(n api.NFA) *walker {
	w := &walker{edges: n.Edges, first: make([]int, n.States), next: make([]int, len(n.Edges)), met: map[int]int{}}
	for state := range w.first {
		w.first[state] = none
	}
	for i, e := range n.Edges {
		w.next[i] = w.first[e.From]
		w.first[e.From] = i
	}
	return w
}

// closed are the states of set, each once, and all that edges by none lead to from there.
func (w *walker) closed(set []int) []int {
	w.round++
	var out []int
	meet := func(state int) {
		if w.met[state] < w.round {
			w.met[state] = w.round
			out = append(out, state)
		}
	}
	for _, state := range set {
		meet(state)
	}
	for i := 0; i < len(out); i++ { // out grows on the way
		for state := range w.behind(out[i], byNone) {
			meet(state)
		}
	}
	return out
}

// step are the states, closed, to which a byte leads from a closed set.
func (w *walker) step(set []int, c byte) []int {
	byThis := func(e api.Edge) bool { return has(e.Set, c) }
	var next []int
	for _, state := range set {
		next = slices.AppendSeq(next, w.behind(state, byThis))
	}
	return w.closed(next)
}

// behind are the states to which the edges that count lead from a state.
func (w *walker) behind(state int, counts func(api.Edge) bool) iter.Seq[int] {
	return func(yield func(int) bool) {
		for i := w.first[state]; i != none; i = w.next[i] {
			if counts(w.edges[i]) && !yield(w.edges[i].To) {
				return
			}
		}
	}
}

// has tells whether a byte is in one of l.
func has(l []api.Span, c byte) bool {
	for _, s := range l {
		if s.Lo <= c && c <= s.Hi {
			return true
		}
	}
	return false
}
