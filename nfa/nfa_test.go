package nfa_test

import (
	"testing"

	"quincunx/api"
	"quincunx/nfa"
	"quincunx/regex"
)

// spans are of each two bytes the ones from the first to the second.
func spans(s string) []api.Span {
	var l []api.Span
	for i := 0; i+1 < len(s); i += 2 {
		l = append(l, api.Span{Lo: s[i], Hi: s[i+1]})
	}
	return l
}

// edge is one by the spans that s tells, or, if that is empty, by none.
func edge(from, to int, s string) api.Edge {
	return api.Edge{From: from, To: to, Set: spans(s)}
}

func auto(states, start int, ends []int, edges ...api.Edge) api.NFA {
	return api.NFA{States: states, Start: start, Ends: ends, Edges: edges}
}

// res are the expressions of texts.
func res(t *testing.T, l ...string) []api.Re {
	t.Helper()
	var out []api.Re
	for _, s := range l {
		r, _, e := regex.Parse(s)
		if e != api.OK {
			t.Fatalf("%q: %d", s, e)
		}
		out = append(out, r)
	}
	return out
}

// built is the automaton of texts.
func built(t *testing.T, l ...string) api.NFA {
	t.Helper()
	n, e := nfa.Build(res(t, l...))
	if e != api.OK {
		t.Fatalf("%q: %d", l, e)
	}
	return n
}

// wrong are automata that may not be.
func wrong() map[string]api.NFA {
	var all []api.Edge
	for i := range api.MaxStates {
		all = append(all, edge(i, i+1, ""))
	}
	const least, most = -1 << 63, 1<<63 - 1
	return map[string]api.NFA{
		"nothing":                          {},
		"no states":                        auto(0, 0, nil),
		"states below 0":                   auto(-1, -1, nil),
		"the least number of states":       auto(least, 0, []int{0}, edge(0, 0, "aa")),
		"one state too many":               auto(api.MaxStates+1, 0, []int{api.MaxStates}, all...),
		"the greatest number of states":    auto(most, 0, []int{0}, edge(0, most-1, "aa")),
		"Start below 0":                    auto(2, -1, []int{1}, edge(0, 1, "aa")),
		"Start behind the last":            auto(2, 2, []int{1}, edge(0, 1, "aa")),
		"the least Start":                  auto(2, least, []int{1}, edge(0, 1, "aa")),
		"the greatest Start":               auto(2, most, []int{1}, edge(0, 1, "aa")),
		"an end below 0":                   auto(2, 0, []int{-1}, edge(0, 1, "aa")),
		"an end behind the last":           auto(2, 0, []int{2}, edge(0, 1, "aa")),
		"the second end":                   auto(2, 0, []int{1, 5, 1}, edge(0, 1, "aa")),
		"From below 0":                     auto(2, 0, []int{1}, edge(-1, 1, "aa")),
		"From behind the last":             auto(2, 0, []int{1}, edge(2, 1, "aa")),
		"From behind the last, by none":    auto(2, 0, []int{1}, edge(2, 1, "")),
		"To below 0":                       auto(2, 0, []int{1}, edge(0, -1, "aa")),
		"To behind the last":               auto(2, 0, []int{1}, edge(0, 2, "aa")),
		"To behind the last, by none":      auto(2, 0, []int{1}, edge(0, 2, "")),
		"the last edge":                    auto(3, 0, []int{1}, edge(0, 1, "aa"), edge(1, 2, ""), edge(2, 3, "bb")),
		"an empty span":                    auto(2, 0, []int{1}, edge(0, 1, "ba")),
		"an empty span, the second":        auto(2, 0, []int{1}, edge(0, 1, "aadc")),
		"spans that touch":                 auto(2, 0, []int{1}, edge(0, 1, "abcd")),
		"spans that touch at 255":          auto(2, 0, []int{1}, edge(0, 1, "\x00\xfe\xff\xff")),
		"spans that overlap":               auto(2, 0, []int{1}, edge(0, 1, "acbf")),
		"a span behind 255":                auto(2, 0, []int{1}, edge(0, 1, "\xf0\xff\x00\x01")),
		"spans in another order":           auto(2, 0, []int{1}, edge(0, 1, "ddaa")),
		"spans of the last edge":           auto(2, 0, []int{1}, edge(0, 1, "aa"), edge(0, 1, ""), edge(1, 1, "aaaa")),
		"spans of an edge ahead of others": auto(2, 0, []int{1}, edge(0, 1, "zy"), edge(0, 1, "aa")),
	}
}

// P3.1: which automata may be.
func TestCheck(t *testing.T) {
	for name, n := range map[string]api.NFA{
		"one state":                 auto(1, 0, nil),
		"one state, its own end":    auto(1, 0, []int{0}),
		"one state, to itself":      auto(1, 0, []int{0}, edge(0, 0, ""), edge(0, 0, "aa")),
		"two":                       auto(2, 0, []int{1}, edge(0, 1, "aa")),
		"Start is the last":         auto(2, 1, []int{0}, edge(1, 0, "aa")),
		"an end twice":              auto(2, 0, []int{1, 1, 0, 1}, edge(0, 1, "aa")),
		"more ends than states":     auto(1, 0, make([]int, 5000)),
		"an edge twice":             auto(2, 0, []int{1}, edge(0, 1, "aa"), edge(0, 1, "aa")),
		"backwards":                 auto(3, 0, []int{2}, edge(2, 0, ""), edge(1, 2, "bb")),
		"all bytes":                 auto(2, 0, []int{1}, edge(0, 1, "\x00\xff")),
		"the first and last byte":   auto(2, 0, []int{1}, edge(0, 1, "\x00\x00\xff\xff")),
		"one byte between":          auto(2, 0, []int{1}, edge(0, 1, "acee")),
		"a Set that is not nil":     auto(2, 0, []int{1}, api.Edge{From: 0, To: 1, Set: []api.Span{}}),
		"lists that are not nil":    {States: 1, Ends: []int{}, Edges: []api.Edge{}},
		"as many states as may be":  auto(api.MaxStates, api.MaxStates-1, []int{api.MaxStates - 1}, edge(api.MaxStates-1, api.MaxStates-1, "")),
		"more edges than MaxStates": auto(1, 0, nil, make([]api.Edge, 3*api.MaxStates)...),
	} {
		if e := nfa.Check(n); e != api.OK {
			t.Errorf("%s: got %d", name, e)
		}
	}
	for name, n := range wrong() {
		if e := nfa.Check(n); e != api.ErrAuto {
			t.Errorf("%s: got %d", name, e)
		}
	}
}

// R1: of what may not be nothing is said, but that the calls end.
func TestOthersEnd(t *testing.T) {
	const least, most = -1 << 63, 1<<63 - 1
	all := wrong()
	all["one that may be"] = built(t, "a*", "(a|b)+")
	for _, n := range all {
		for _, set := range [][]int{nil, {}, {0}, {0, 1}, {1, 0}, {1, 1, 1}, {-1}, {0, 2}, {-5, 0, 7000}, {api.MaxStates}, {least, most}} {
			nfa.Close(n, set)
			nfa.Step(n, set, 'a')
		}
		for _, s := range []string{"", "a", "aab"} {
			nfa.Run(n, s)
		}
	}
}
