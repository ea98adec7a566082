package least

import (
	"slices"

	"quincunx/api"
)

// leading is of each state from which states a byte leads to it.
func leading(d api.DFA) [][]int {
	from := make([][]int, len(d.Moves))
	for state, l := range d.Moves {
		for _, m := range l {
			known := from[m.To]
			if len(known) == 0 || known[len(known)-1] != state { // once, also if several bytes lead there
				from[m.To] = append(known, state)
			}
		}
	}
	return from
}

// dead tells of each state whether it is dead; from tells which states lead to it.
func dead(d api.DFA, from [][]int) []bool {
	l := make([]bool, len(d.Accept))
	var live []int
	for state, i := range d.Accept {
		l[state] = i == none
		if i != none {
			live = append(live, state)
		}
	}
	for len(live) > 0 {
		last := len(live) - 1
		state := live[last]
		live = live[:last]
		for _, x := range from[state] {
			if l[x] {
				l[x] = false
				live = append(live, x)
			}
		}
	}
	return l
}

// classes are those of states that are alike, in any order; none is that of the dead ones.
func classes(d api.DFA) []int {
	s := newSplitter(d)
	for todo := slices.Clone(s.members[0]); len(todo) > 0; {
		todo = s.behind(s.split(todo))
	}
	return s.class
}

// kind is what tells a state from others, as far as classes are told apart. What told two classes apart still does: all states of one kind are in one class.
type kind struct {
	accept int
	to     [256]int16 // of each byte the class to which it leads, counted from 1 on; 0: to none
}

// splitter tells classes apart, till all states of each are of one kind.
// Where a class falls into parts, the greatest keeps its number: so a state gets another one some 11 times at the most, and only what leads to such states is looked at again.
type splitter struct {
	d       api.DFA
	from    [][]int // of each state which states lead to it
	class   []int   // of each state; none: it is dead
	members [][]int // of each class
}

// newSplitter has all states that are not dead in one class.
func newSplitter(d api.DFA) *splitter {
	s := &splitter{d: d, from: leading(d), class: make([]int, len(d.Moves)), members: [][]int{nil}}
	for state, dead := range dead(d, s.from) {
		if dead {
			s.class[state] = none
		} else {
			s.members[0] = append(s.members[0], state)
		}
	}
	return s
}

func (s *splitter) kind(state int) kind {
	k := kind{accept: s.d.Accept[state]}
	for _, m := range s.d.Moves[state] {
		to := int16(s.class[m.To] + 1)
		for c := int(m.Lo); c <= int(m.Hi); c++ {
			k.to[c] = to
		}
	}
	return k
}

// kinds puts states together that are of one kind.
func (s *splitter) kinds(states []int) [][]int {
	found := map[kind]int{}
	var parts [][]int
	for _, state := range states {
		k := s.kind(state)
		i, ok := found[k]
		if !ok {
			i = len(parts)
			found[k] = i
			parts = append(parts, nil)
		}
		parts[i] = append(parts[i], state)
	}
	return parts
}

// split parts the classes of the states of todo: these may be of other kinds now, and none of them is of the kind of one that is not there.
// It answers the states whose class is a new one.
func (s *splitter) split(todo []int) []int {
	parts := s.kinds(todo)
	s.take(todo)
	var moved []int
	for _, part := range parts {
		c := s.class[part[0]]
		if len(part) > len(s.members[c]) {
			part, s.members[c] = s.members[c], part
		}
		if len(part) > 0 {
			s.add(part)
			moved = append(moved, part...)
		}
	}
	return moved
}

// take takes states out of their classes' members.
func (s *splitter) take(states []int) {
	taken := make([]bool, len(s.class))
	for _, state := range states {
		taken[state] = true
	}
	for c, l := range s.members {
		s.members[c] = slices.DeleteFunc(l, func(state int) bool { return taken[state] })
	}
}

// add makes a class.
func (s *splitter) add(members []int) {
	for _, state := range members {
		s.class[state] = len(s.members)
	}
	s.members = append(s.members, members)
}

// behind are the states from which a byte leads to one of these, each once.
func (s *splitter) behind(states []int) []int {
	met := make([]bool, len(s.class))
	var l []int
	for _, state := range states {
		for _, x := range s.from[state] {
			if !met[x] {
				met[x] = true
				l = append(l, x)
			}
		}
	}
	return l
}
