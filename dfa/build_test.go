package dfa_test

import (
	"math/rand"
	"slices"
	"strconv"
	"strings"
	"testing"

	"quincunx/api"
	"quincunx/dfa"
	"quincunx/nfa"
	"quincunx/regex"
)

// many is the automaton with many ways of texts.
func many(t *testing.T, l ...string) api.NFA {
	t.Helper()
	rs := make([]api.Re, len(l))
	for i, s := range l {
		r, at, e := regex.Parse(s)
		if e != api.OK {
			t.Fatalf("%q: %d at %d", s, e, at)
		}
		rs[i] = r
	}
	n, e := nfa.Build(rs)
	if e != api.OK {
		t.Fatalf("%q: %d", l, e)
	}
	return n
}

// edge is one by the bytes of l, each span two of them; by none, if that is empty.
func edge(from, to int, l ...byte) api.Edge {
	e := api.Edge{From: from, To: to}
	for two := range slices.Chunk(l, 2) {
		e.Set = append(e.Set, api.Span{Lo: two[0], Hi: two[1]})
	}
	return e
}

// P4.2: the automata of expressions, state by state and move by move.
func TestBuild(t *testing.T) {
	for _, x := range []struct {
		l    []string
		want string
	}{
		{nil, "-1"},
		{[]string{"()"}, "0"},
		{[]string{"a"}, "-1 a1; 0"},
		{[]string{"[a-cx]"}, "-1 a-c1 x1; 0"},
		{[]string{"."}, "-1 <0>-<9>1 <11>-<255>1; 0"},
		{[]string{`[\x00-\xff]`}, "-1 <0>-<255>1; 0"},
		{[]string{`\x00|\xff`}, "-1 <0>1 <255>2; 0; 0"},
		{[]string{"ab"}, "-1 a1; -1 b2; 0"},
		{[]string{"a|b"}, "-1 a1 b2; 0; 0"},
		{[]string{"ba|ab"}, "-1 a1 b2; -1 b3; -1 a4; 0; 0"},
		{[]string{"ba|ac"}, "-1 a1 b2; -1 c3; -1 a4; 0; 0"},
		{[]string{"[^b]|b"}, "-1 <0>-a1 b2 c-<255>1; 0; 0"},
		{[]string{"a*"}, "0 a1; 0 a1"},
		{[]string{"a+"}, "-1 a1; 0 a1"},
		{[]string{"a?"}, "0 a1; 0"},
		{[]string{"a??b"}, "-1 a1 b2; -1 b2; 0"},
		{[]string{"(a|b)*b"}, "-1 a1 b2; -1 a1 b2; 0 a1 b2"},
		{[]string{"(ab|a)(bc)?"}, "-1 a1; 0 b2; 0 b3 c4; -1 c4; 0"},
		{[]string{"a", "a*"}, "1 a1; 0 a2; 1 a2"}, // the chapter's example
		{[]string{"a*", "a"}, "0 a1; 0 a2; 0 a2"},
		{[]string{"a", "a"}, "-1 a1; 0"},
		{[]string{"a", "b"}, "-1 a1 b2; 0; 1"},
		{[]string{"b", "a"}, "-1 a1 b2; 1; 0"},
		{[]string{"a", "b", "[ab]", "()"}, "3 a1 b2; 0; 1"},
		{[]string{"if", "[a-z]+"}, "-1 a-h1 i2 j-z1; 1 a-z1; 1 a-e1 f3 g-z1; 0 a-z1"},
		{[]string{"[a-z]+", "if"}, "-1 a-h1 i2 j-z1; 0 a-z1; 0 a-e1 f3 g-z1; 0 a-z1"},
	} {
		d, e := dfa.Build(many(t, x.l...))
		if got := told(d); got != x.want || e != api.OK {
			t.Errorf("%q: got %s, %d", x.l, got, e)
		}
	}
}

// P4.2: of automata that no expression makes.
func TestBuildOfOthers(t *testing.T) {
	for _, x := range []struct {
		name string
		n    api.NFA
		want string
	}{
		{"one state", api.NFA{States: 1}, "-1"},
		{"an end twice", api.NFA{States: 1, Ends: []int{0, 0}}, "0"},
		{"Start is not 0", api.NFA{States: 3, Start: 2, Ends: []int{0}, Edges: []api.Edge{edge(2, 0, 'a', 'a')}}, "-1 a1; 0"},
		{"edges that could be one", api.NFA{States: 2, Ends: []int{1}, Edges: []api.Edge{edge(0, 1, 'b', 'c'), edge(0, 1, 'a', 'a'), edge(0, 1, 'd', 'd')}}, "-1 a-d1; 0"},
		{"edges that overlap", api.NFA{States: 3, Ends: []int{2, 1}, Edges: []api.Edge{edge(0, 1, 'a', 'c'), edge(0, 2, 'b', 'd')}}, "-1 a1 b-c2 d3; 1; 0; 0"},
		{"two ways to one set", api.NFA{States: 3, Ends: []int{2}, Edges: []api.Edge{edge(0, 1, 'a', 'a'), edge(0, 2, 'b', 'b'), edge(1, 2), edge(2, 1)}}, "-1 a-b1; 0"},
		{"spans that touch by two edges", api.NFA{States: 2, Ends: []int{1}, Edges: []api.Edge{edge(0, 1, 'a', 'a', 'c', 'c'), edge(1, 0), edge(0, 1, 'b', 'b', 'e', 'e')}}, "-1 a-c1 e1; 0 a-c1 e1"},
		{"all bytes, and some of them", api.NFA{States: 3, Ends: []int{2}, Edges: []api.Edge{edge(0, 1, 0, 255), edge(0, 2, 0, 0, 255, 255)}}, "-1 <0>1 <1>-<254>2 <255>1; 0; -1"},
		{"a ring by none", api.NFA{States: 3, Start: 1, Ends: []int{0}, Edges: []api.Edge{edge(0, 1), edge(1, 2), edge(2, 0), edge(1, 1, 'x', 'x')}}, "0 x0"},
		{"a state to which nothing leads", api.NFA{States: 3, Ends: []int{2, 1}, Edges: []api.Edge{edge(0, 1, 'a', 'a'), edge(2, 1, 'b', 'b')}}, "-1 a1; 1"},
		{"an end that comes to nothing", api.NFA{States: 2, Ends: []int{0}, Edges: []api.Edge{edge(0, 1, 'a', 'a'), edge(1, 1, 'a', 'b')}}, "0 a1; -1 a-b1"},
		{"the least of several ends", api.NFA{States: 3, Ends: []int{2, 2, 0, 1, 0}, Edges: []api.Edge{edge(0, 1, 'a', 'a'), edge(1, 0), edge(0, 2, 'b', 'b')}}, "2 a1 b2; 2 a1 b2; 0"},
		{"the last states that may be", api.NFA{States: api.MaxStates, Start: api.MaxStates - 1, Ends: []int{0, api.MaxStates - 2}, Edges: []api.Edge{edge(api.MaxStates-1, api.MaxStates-2, 'z', 'z'), edge(api.MaxStates-2, api.MaxStates-1)}}, "-1 z1; 1 z1"},
	} {
		d, e := dfa.Build(x.n)
		if got := told(d); got != x.want || e != api.OK {
			t.Errorf("%s: got %s, %d", x.name, got, e)
		}
	}
}

// P4.2: nfa.Check's error, and nothing beside it.
func TestBuildRefuses(t *testing.T) {
	for name, n := range map[string]api.NFA{
		"nothing":               {},
		"states below 0":        {States: -1},
		"one state too many":    {States: api.MaxStates + 1},
		"far too many":          {States: most},
		"Start is no state":     {States: 1, Start: 1},
		"an end is no state":    {States: 1, Ends: []int{0, -1}},
		"an edge to no state":   {States: 1, Edges: []api.Edge{edge(0, 1, 'a', 'a')}},
		"an edge from no state": {States: 1, Edges: []api.Edge{edge(least, 0)}},
		"a Set out of order":    {States: 1, Edges: []api.Edge{edge(0, 0, 'b', 'a')}},
		"spans that touch":      {States: 1, Edges: []api.Edge{edge(0, 0, 'a', 'b', 'c', 'd')}},
	} {
		if d, e := dfa.Build(n); e != api.ErrAuto || len(d.Moves) != 0 || len(d.Accept) != 0 {
			t.Errorf("%s: got %s, %d", name, told(d), e)
		}
	}
	large := many(t, fork(10)) // what may not be is told ahead of too many states
	large.Edges = append(large.Edges, edge(0, large.States, 'a', 'a'))
	if _, e := dfa.Build(large); e != api.ErrAuto {
		t.Errorf("what has too many states: got %d", e)
	}
}

// fork is a text whose automaton must know of each of the last n + 1 bytes whether it was an a.
func fork(n int) string {
	return "(a|b)*a" + strings.Repeat("[ab]", n)
}

// P4.2: there are at most MaxStates states.
func TestBuildStates(t *testing.T) {
	const forked = 1 + 1024 // the beginning, and each way in which the last 10 bytes can be
	for _, x := range []struct {
		name string
		l    []string
		want int // 0: too many
	}{
		{"a chain", []string{strings.Repeat("c", api.MaxStates-1)}, api.MaxStates},
		{"a fork", []string{fork(9)}, forked},
		{"one fewer than as many as go", []string{fork(9), strings.Repeat("c", api.MaxStates-forked-1)}, api.MaxStates - 1},
		{"as many as go", []string{fork(9), strings.Repeat("c", api.MaxStates-forked)}, api.MaxStates},
		{"one more", []string{fork(9), strings.Repeat("c", api.MaxStates-forked+1)}, 0},
		{"two more", []string{fork(9), strings.Repeat("c", api.MaxStates-forked+2)}, 0},
		{"a greater fork", []string{fork(10)}, 0},
		{"endlessly many", []string{fork(600)}, 0},
	} {
		d, e := dfa.Build(many(t, x.l...))
		want := api.OK
		if x.want == 0 {
			want = api.ErrStates
		}
		if e != want || len(d.Moves) != x.want || len(d.Accept) != x.want {
			t.Errorf("%s: got %d states, %d", x.name, len(d.Moves), e)
		}
		if e == api.OK && dfa.Check(d) != api.OK {
			t.Errorf("%s: may not be", x.name)
		}
	}
}

// byWords is what Build says, made as the chapter has it: set by set and byte by byte, by nfa.Step.
func byWords(n api.NFA) api.DFA {
	key := func(set []int) string {
		s := ""
		for _, q := range set {
			s += strconv.Itoa(q) + " "
		}
		return s
	}
	sets := [][]int{nfa.Close(n, []int{n.Start})}
	found := map[string]int{key(sets[0]): 0}
	var d api.DFA
	for i := 0; i < len(sets); i++ {
		var l []api.Move
		for c := range 256 {
			set := nfa.Step(n, sets[i], byte(c))
			if len(set) == 0 {
				continue
			}
			to, ok := found[key(set)]
			if !ok {
				to = len(sets)
				found[key(set)] = to
				sets = append(sets, set)
			}
			if k := len(l) - 1; k >= 0 && l[k].To == to && int(l[k].Hi)+1 == c {
				l[k].Hi++
			} else {
				l = append(l, move(byte(c), byte(c), to))
			}
		}
		d.Moves = append(d.Moves, l)
		d.Accept = append(d.Accept, slices.IndexFunc(n.Ends, func(q int) bool { return slices.Contains(sets[i], q) }))
	}
	return d
}

// someNFA is any automaton that may be, of a few states.
func someNFA(r *rand.Rand) api.NFA {
	n := api.NFA{States: 1 + r.Intn(7)}
	state := func() int { return r.Intn(n.States) }
	n.Start = state()
	for range r.Intn(4) {
		n.Ends = append(n.Ends, state())
	}
	sets := [][]byte{{}, {'a', 'a'}, {'b', 'b'}, {'a', 'c'}, {'b', 'b', 'd', 'd'}, {0, '`', 'c', 'c', 'z', 255}, {0, 255}, {0, 0, 255, 255}}
	for range r.Intn(3 * n.States) {
		n.Edges = append(n.Edges, edge(state(), state(), sets[r.Intn(len(sets))]...))
	}
	return n
}

// texts are all texts of a, b and c up to 5 bytes, and some others.
func texts() []string {
	l := []string{""}
	for i := 0; len(l[i]) < 5; i++ {
		l = append(l, l[i]+"a", l[i]+"b", l[i]+"c")
	}
	return append(l, "\x00", "\xff", "a\xff", "d", "ad", "bd\x00", "zz", "abcdabcd", "\n", "a\n")
}

// leastOf is the least of nfa.Run, -1, if that has none.
func leastOf(n api.NFA, s string) int {
	if l := nfa.Run(n, s); len(l) > 0 {
		return l[0]
	}
	return -1
}

// P4.2, P4.4: many automata, against what the chapter says word by word.
func TestBuildOfMany(t *testing.T) {
	r := rand.New(rand.NewSource(11))
	all, states := texts(), 0
	for range 1500 {
		n := someNFA(r)
		d, e := dfa.Build(n)
		if e != api.OK || dfa.Check(d) != api.OK {
			t.Fatalf("%v: got %s, %d", n, told(d), e)
		}
		if want := told(byWords(n)); told(d) != want {
			t.Fatalf("%v: got %s, want %s", n, told(d), want)
		}
		states += len(d.Moves)
		for _, s := range all {
			if got, want := dfa.Run(d, s), leastOf(n, s); got != want {
				t.Fatalf("%v, %q: got %d, want %d", n, s, got, want)
			}
		}
	}
	if states < 4000 {
		t.Errorf("%d states in all: the automata tell too little", states)
	}
}

// someText is a text of an expression, of at most that depth.
func someText(r *rand.Rand, depth int) string {
	if depth <= 1 {
		return []string{"()", "a", "b", "c", "[ab]", "[^a]", "."}[r.Intn(7)]
	}
	x := "(" + someText(r, depth-1) + ")"
	switch r.Intn(5) {
	case 0:
		return x + "|" + someText(r, depth-1)
	case 1:
		return x + string("*+?"[r.Intn(3)])
	}
	return x + someText(r, depth-2)
}

// P4.2, P4.4: the automata of many expressions, which may match the same texts.
func TestRunOfBuild(t *testing.T) {
	r := rand.New(rand.NewSource(12))
	all, met := texts(), map[int]int{}
	for range 300 {
		var l []string
		for range 1 + r.Intn(3) {
			l = append(l, someText(r, 1+r.Intn(6)))
		}
		n := many(t, l...)
		d, e := dfa.Build(n)
		if e != api.OK || dfa.Check(d) != api.OK || told(d) != told(byWords(n)) {
			t.Fatalf("%q: got %s, %d", l, told(d), e)
		}
		for _, s := range all {
			got := dfa.Run(d, s)
			if want := leastOf(n, s); got != want {
				t.Fatalf("%q, %q: got %d, want %d", l, s, got, want)
			}
			met[got]++
		}
	}
	for i := -1; i <= 2; i++ {
		if met[i] < 500 {
			t.Errorf("%d is met %d times: the expressions tell too little", i, met[i])
		}
	}
}

// R2: what was handed in stays what it is; what was answered does not hang on it, and no two of its lists on each other.
func TestBuildIsNotShared(t *testing.T) {
	const want = "-1 a-h1 i2 j-z1; 1 a-z1; 1 a-e1 f3 g-z1; 0 a-z1"
	n, same := many(t, "if", "[a-z]+"), many(t, "if", "[a-z]+")
	d, _ := dfa.Build(n)
	again, _ := dfa.Build(n)
	if !slices.Equal(n.Ends, same.Ends) || !slices.EqualFunc(n.Edges, same.Edges, func(a, b api.Edge) bool {
		return a.From == b.From && a.To == b.To && slices.Equal(a.Set, b.Set)
	}) {
		t.Fatalf("what was handed in is %v now", n)
	}
	for _, e := range n.Edges {
		clear(e.Set)
	}
	clear(n.Edges)
	n.Ends[0] = 0
	if told(d) != want {
		t.Errorf("behind a change of what was handed in: %s", told(d))
	}
	for i, l := range d.Moves {
		_ = append(l, api.Move{})
		clear(l)
		for _, m := range slices.Concat(d.Moves[i+1:]...) {
			if m.Hi == 0 {
				t.Fatalf("behind a change of the moves of %d: %s", i, told(d))
			}
		}
	}
	clear(d.Accept)
	if told(again) != want {
		t.Errorf("behind a change of another answer: %s", told(again))
	}
}

// R5: the same automaton, again and again.
func TestBuildAgain(t *testing.T) {
	n := many(t, fork(6), "[^a]+", "(ab|ba)*", ".?c")
	d, _ := dfa.Build(n)
	for range 20 {
		if again, _ := dfa.Build(n); told(again) != told(d) {
			t.Fatalf("got %s, and then %s", told(d), told(again))
		}
	}
}

// each is a text that has each byte for itself.
func each() string {
	var l []string
	for c := range 256 {
		s, _ := regex.Text(api.Re{Kind: api.Set, Set: []api.Span{{Lo: byte(c), Hi: byte(c)}}})
		l = append(l, s)
	}
	return strings.Join(l, "|")
}

// R1: automata whose sets are large, and whose bytes all lead elsewhere.
func TestBuildOfLarge(t *testing.T) {
	for _, x := range []struct {
		l       []string
		want    int
		yes, no string
	}{
		{[]string{"(" + each() + ")*"}, 257, "\x00\xffaz", ""},
		{[]string{"(" + strings.Repeat(".?", 300) + ")*", each()}, 258, strings.Repeat("xy", 300), "\n\n"},
		{[]string{strings.Repeat("(.*)?", 330) + "a"}, 3, "xyza", "\na"},
	} {
		d, e := dfa.Build(many(t, x.l...))
		if e != api.OK || len(d.Moves) != x.want || dfa.Check(d) != api.OK {
			t.Errorf("%.20q: got %d states, %d", x.l, len(d.Moves), e)
		}
		if dfa.Run(d, x.yes) != 0 || x.no != "" && dfa.Run(d, x.no) != -1 {
			t.Errorf("%.20q: got %d, %d", x.l, dfa.Run(d, x.yes), dfa.Run(d, x.no))
		}
	}
}
