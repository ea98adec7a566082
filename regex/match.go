package regex

import (
	"quincunx/api"
	"quincunx/nest"
)

// Match tells whether an expression that may be matches all of s.
// All ways through it are gone at once, byte by byte: to try one behind the other could take endlessly long.
func Match(r api.Re, s string) bool {
	if Check(r) == api.ErrArg {
		return false
	}
	m := newMatcher(r)
	for i := range len(s) {
		if len(m.sets) == 0 {
			return false
		}
		m.step(s[i])
	}
	return m.met[endOf(0)] == m.now
}

// none is no node.
const none = -1

// node is r, or an expression that is in it; the first of its parts is the next one in the list of nodes.
type node struct {
	kind int
	set  byteSet
	up   int // whose part it is
	next int // the part behind it
}

// nodesOf are r and all that is in it, each ahead of its parts.
func nodesOf(r api.Re) []node {
	var l []node
	var last []int // the last one so far at each depth
	for depth, x := range nest.All(r, parts) {
		n := node{kind: x.Kind, set: setOf(x.Set...), up: none, next: none}
		if depth > 1 {
			n.up = last[depth-2]
		}
		if depth <= len(last) {
			l[last[depth-1]].next = len(l)
		}
		last = append(last[:depth-1], len(l))
		l = append(l, n)
	}
	return l
}

// A state is the beginning or the end of a node.
func beginOf(i int) int { return 2 * i }

func endOf(i int) int { return 2*i + 1 }

// matcher is the states that one can be in behind the bytes so far.
type matcher struct {
	nodes []node
	now   int   // how many rounds there were, one ahead of all bytes, and one a byte
	met   []int // the round in which a state was met last
	open  []int // states of this round that were not gone on from
	sets  []int // nodes of the kind Set whose beginnings were met in this round
}

func newMatcher(r api.Re) *matcher {
	m := &matcher{nodes: nodesOf(r), now: 1}
	m.met = make([]int, 2*len(m.nodes))
	m.meet(beginOf(0))
	m.goOn()
	return m
}

// step goes on by one byte.
func (m *matcher) step(c byte) {
	m.now++
	for _, i := range m.sets {
		if m.nodes[i].set.has(int(c)) {
			m.meet(endOf(i))
		}
	}
	m.sets = m.sets[:0]
	m.goOn()
}

func (m *matcher) meet(state int) {
	if m.met[state] < m.now {
		m.met[state] = m.now
		m.open = append(m.open, state)
	}
}

// goOn meets all that can be met without a byte.
func (m *matcher) goOn() {
	for len(m.open) > 0 {
		state := m.open[len(m.open)-1]
		m.open = m.open[:len(m.open)-1]
		if state == beginOf(state/2) {
			m.begin(state / 2)
		} else {
			m.end(state / 2)
		}
	}
}

// begin goes on from a node's beginning.
func (m *matcher) begin(i int) {
	first := i + 1
	switch m.nodes[i].kind {
	case api.Empty:
		m.meet(endOf(i))
	case api.Set:
		m.sets = append(m.sets, i)
	case api.Alt:
		for k := first; k != none; k = m.nodes[k].next {
			m.meet(beginOf(k))
		}
	case api.Star, api.Opt:
		m.meet(beginOf(first))
		m.meet(endOf(i))
	default:
		m.meet(beginOf(first))
	}
}

// end goes on from a node's end.
func (m *matcher) end(i int) {
	up, next := m.nodes[i].up, m.nodes[i].next
	if up == none {
		return
	}
	switch m.nodes[up].kind {
	case api.Star, api.Plus:
		m.meet(beginOf(i))
		m.meet(endOf(up))
	case api.Cat:
		if next != none {
			m.meet(beginOf(next))
		} else {
			m.meet(endOf(up))
		}
	default:
		m.meet(endOf(up))
	}
}
