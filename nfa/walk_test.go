package nfa_test

import (
	"math/rand"
	"slices"
	"strings"
	"testing"

	"quincunx/api"
	"quincunx/nfa"
)

// rings is two rings of edges by none (0 1 2, and 5 6), edges by bytes around them, and a state (8) to which nothing leads.
func rings() api.NFA {
	return auto(9, 3, []int{6, 0, 6, 8, 3},
		edge(3, 1, ""), edge(1, 2, ""), edge(2, 0, ""), edge(0, 1, ""),
		edge(2, 5, "ac"), edge(1, 4, "cezz"), edge(5, 6, ""), edge(6, 5, ""),
		edge(4, 4, "\x00\xff"), edge(6, 3, "\x00\x00\xff\xff"), edge(7, 4, ""), edge(4, 7, ""), edge(8, 0, "aa"),
		edge(0, 0, ""), edge(3, 3, "xx"), edge(3, 1, ""))
}

// P3.3: the set, and all that edges by none lead to from it.
func TestClose(t *testing.T) {
	long := auto(api.MaxStates, 0, nil)
	var all []int
	for q := range api.MaxStates - 1 {
		long.Edges = append(long.Edges, edge(q+1, q, ""))
	}
	for q := range api.MaxStates {
		all = append(all, q)
	}
	for _, x := range []struct {
		name      string
		n         api.NFA
		set, want []int
	}{
		{"none", rings(), nil, nil},
		{"an empty list", rings(), []int{}, nil},
		{"a ring", rings(), []int{0}, []int{0, 1, 2}},
		{"into a ring", rings(), []int{3}, []int{0, 1, 2, 3}},
		{"another ring", rings(), []int{5}, []int{5, 6}},
		{"two that lead to each other", rings(), []int{7}, []int{4, 7}},
		{"a lone one", rings(), []int{8}, []int{8}},
		{"several", rings(), []int{2, 6, 8}, []int{0, 1, 2, 5, 6, 8}},
		{"what is closed", rings(), []int{0, 1, 2, 5, 6}, []int{0, 1, 2, 5, 6}},
		{"all", rings(), []int{0, 1, 2, 3, 4, 5, 6, 7, 8}, []int{0, 1, 2, 3, 4, 5, 6, 7, 8}},
		{"no edges", auto(3, 0, nil), []int{0, 2}, []int{0, 2}},
		{"a Set that is not nil is none", auto(2, 0, nil, api.Edge{From: 0, To: 1, Set: []api.Span{}}), []int{0}, []int{0, 1}},
		{"not against the edges", auto(3, 0, nil, edge(0, 1, ""), edge(2, 1, "")), []int{1}, []int{1}},
		{"a long way", long, []int{api.MaxStates - 1}, all},
		{"half of it", long, []int{api.MaxStates / 2}, all[:api.MaxStates/2+1]},
	} {
		if got := nfa.Close(x.n, x.set); !slices.Equal(got, x.want) {
			t.Errorf("%s: got %v", x.name, got)
		}
	}
}

// P3.3: where a byte leads from a set.
func TestStep(t *testing.T) {
	for _, x := range []struct {
		set  []int
		c    byte
		want []int
	}{
		{nil, 'a', nil},
		{[]int{}, 'a', nil},
		{[]int{2}, 'a', []int{5, 6}},
		{[]int{2}, 'b', []int{5, 6}},
		{[]int{2}, 'c', []int{4, 5, 6, 7}},
		{[]int{2}, 'd', []int{4, 7}},
		{[]int{2}, 'e', []int{4, 7}},
		{[]int{2}, 'z', []int{4, 7}},
		{[]int{2}, 'f', nil},
		{[]int{2}, 'y', nil},
		{[]int{2}, '`', nil},
		{[]int{0}, 'a', []int{5, 6}},
		{[]int{3}, 'a', []int{5, 6}},
		{[]int{3}, 'x', []int{0, 1, 2, 3}},
		{[]int{0}, 'x', nil},
		{[]int{7}, 0, []int{4, 7}},
		{[]int{7}, 255, []int{4, 7}},
		{[]int{5}, 0, []int{0, 1, 2, 3}},
		{[]int{5}, 255, []int{0, 1, 2, 3}},
		{[]int{5}, 1, nil},
		{[]int{5}, 254, nil},
		{[]int{8}, 'a', []int{0, 1, 2}},
		{[]int{5, 8}, 'a', []int{0, 1, 2}},
		{[]int{0, 4}, 'a', []int{4, 5, 6, 7}},
		{[]int{0, 1, 2, 3, 4, 5, 6, 7, 8}, 0, []int{0, 1, 2, 3, 4, 7}},
	} {
		if got := nfa.Step(rings(), x.set, x.c); !slices.Equal(got, x.want) {
			t.Errorf("%v by %q: got %v", x.set, x.c, got)
		}
	}
}

// P3.3: which ends are reached.
func TestRun(t *testing.T) {
	for s, want := range map[string][]int{
		"":              {1, 4},
		"a":             {0, 2},
		"c":             {0, 2},
		"d":             nil,
		"x":             {1, 4},
		"xxb":           {0, 2},
		"a\x00":         {1, 4},
		"a\xffa":        {0, 2},
		"aa":            nil,
		"aaa\x00":       nil,
		"d\x00\xffabcd": nil,
		"q":             nil,
	} {
		if got := nfa.Run(rings(), s); !slices.Equal(got, want) {
			t.Errorf("%q: got %v", s, got)
		}
	}
	for name, n := range map[string]api.NFA{"no ends": auto(2, 0, nil, edge(0, 1, "")), "another end": auto(3, 0, []int{2}, edge(0, 1, ""))} {
		if got := nfa.Run(n, ""); len(got) != 0 {
			t.Errorf("%s: got %v", name, got)
		}
	}
}

// P3.3: the chapter's example.
func TestRunOfExample(t *testing.T) {
	n := built(t, "a", "a*")
	for s, want := range map[string][]int{"a": {0, 1}, "": {1}, "aa": {1}, "b": nil, "ab": nil} {
		if got := nfa.Run(n, s); !slices.Equal(got, want) {
			t.Errorf("%q: got %v", s, got)
		}
	}
}

// spread is a set, and all that edges by none lead to: what the chapter says, pass by pass.
func spread(n api.NFA, set map[int]bool) []int {
	for again := true; again; {
		again = false
		for _, e := range n.Edges {
			if len(e.Set) == 0 && set[e.From] && !set[e.To] {
				set[e.To], again = true, true
			}
		}
	}
	var out []int
	for q := range n.States {
		if set[q] {
			out = append(out, q)
		}
	}
	return out
}

func asSet(l []int) map[int]bool {
	out := map[int]bool{}
	for _, q := range l {
		out[q] = true
	}
	return out
}

func stepped(n api.NFA, set []int, c byte) []int {
	from, to := asSet(spread(n, asSet(set))), map[int]bool{}
	for _, e := range n.Edges {
		for _, s := range e.Set {
			if from[e.From] && s.Lo <= c && c <= s.Hi {
				to[e.To] = true
			}
		}
	}
	return spread(n, to)
}

func ran(n api.NFA, s string) []int {
	set := spread(n, map[int]bool{n.Start: true})
	for i := range len(s) {
		set = stepped(n, set, s[i])
	}
	var out []int
	for i, q := range n.Ends {
		if slices.Contains(set, q) {
			out = append(out, i)
		}
	}
	return out
}

// someNFA is any automaton that may be, of a few states.
func someNFA(r *rand.Rand) api.NFA {
	n := api.NFA{States: 1 + r.Intn(9)}
	n.Start = r.Intn(n.States)
	for range r.Intn(4) {
		n.Ends = append(n.Ends, r.Intn(n.States))
	}
	for range r.Intn(3 * n.States) {
		by := []string{"", "", "aa", "bb", "ac", "\x00`ccz\xff", "\x00\xff"}[r.Intn(7)]
		n.Edges = append(n.Edges, edge(r.Intn(n.States), r.Intn(n.States), by))
	}
	return n
}

// P3.3: many automata, against what the chapter says word by word.
func TestWalksOfMany(t *testing.T) {
	r := rand.New(rand.NewSource(9))
	for range 3000 {
		n := someNFA(r)
		if nfa.Check(n) != api.OK {
			t.Fatalf("%v may not be", n)
		}
		var set []int
		for q := range n.States {
			if r.Intn(3) == 0 {
				set = append(set, q)
			}
		}
		if got, want := nfa.Close(n, set), spread(n, asSet(set)); !slices.Equal(got, want) {
			t.Fatalf("%s, Close of %v: got %v, want %v", told(n), set, got, want)
		}
		for _, c := range []byte("abcdz\x00\xff") {
			if got, want := nfa.Step(n, set, c), stepped(n, set, c); !slices.Equal(got, want) {
				t.Fatalf("%s, Step of %v by %q: got %v, want %v", told(n), set, c, got, want)
			}
		}
		for _, s := range []string{"", "a", "b", "c", "ab", "ba", "aab", "abca", "cccc", "bacabbac"} {
			if got, want := nfa.Run(n, s), ran(n, s); !slices.Equal(got, want) {
				t.Fatalf("%s, from %d, %q: got %v, want %v", told(n), n.Start, s, got, want)
			}
		}
	}
}

// R2: what was handed in stays what it is; what is answered is the caller's own.
func TestWalksAreNotShared(t *testing.T) {
	n, want := rings(), told(rings())
	set := []int{2, 4, 5}
	room := append(make([]int, 0, 20), set...)
	closed, step := nfa.Close(n, room), nfa.Step(n, room, 'c')
	nfa.Run(n, "ac")
	if !slices.Equal(room, set) || !slices.Equal(room[:4], []int{2, 4, 5, 0}) || told(n) != want {
		t.Fatalf("what was handed in is %v, %s now", room, told(n))
	}
	clear(room)
	if !slices.Equal(closed, []int{0, 1, 2, 4, 5, 6, 7}) || !slices.Equal(step, []int{4, 5, 6, 7}) {
		t.Errorf("what was answered is %v, %v now", closed, step)
	}
	full := []int{0, 1, 2}
	got := nfa.Close(n, full)
	clear(got)
	_ = append(got[:1], 9, 9)
	if !slices.Equal(full, []int{0, 1, 2}) {
		t.Errorf("what was handed in is %v now", full)
	}
	ends := nfa.Run(n, "a")
	clear(ends)
	if told(n) != want {
		t.Errorf("the automaton is %s now", told(n))
	}
}

// R1: large automata and long texts.
func TestRunOfLarge(t *testing.T) {
	many := strings.Repeat("a?", 300) + strings.Repeat("a", 300)
	inner := strings.Repeat("(", 30) + "a|b" + strings.Repeat(")*", 30)
	for _, x := range []struct {
		re      string
		yes, no string
	}{
		{many, strings.Repeat("a", 450), strings.Repeat("a", 299)},
		{inner + "c", strings.Repeat("ab", 2000) + "c", strings.Repeat("ab", 2000)},
		{"(a|b|ab)*", strings.Repeat("ab", 1<<16), strings.Repeat("ab", 1<<16) + "c"},
	} {
		n := built(t, x.re)
		if len(nfa.Run(n, x.yes)) != 1 || len(nfa.Run(n, x.no)) != 0 {
			t.Errorf("%.20q", x.re)
		}
	}
}
