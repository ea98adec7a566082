package nfa_test

import (
	"math/rand"
	"runtime/debug"
	"slices"
	"strconv"
	"testing"

	"quincunx/api"
	"quincunx/nfa"
	"quincunx/regex"
)

// told is an automaton in words: how many states, the edges as they lie (from-to, or from-set-to), the ends.
func told(n api.NFA) string {
	out := strconv.Itoa(n.States) + ":"
	for _, e := range n.Edges {
		by := ""
		if len(e.Set) > 0 {
			s, _ := regex.Text(api.Re{Kind: api.Set, Set: e.Set})
			by = s + "-"
		}
		out += " " + strconv.Itoa(e.From) + "-" + by + strconv.Itoa(e.To)
	}
	out += ";"
	for _, q := range n.Ends {
		out += " " + strconv.Itoa(q)
	}
	return out
}

// P3.2: the automata of expressions, state by state and edge by edge.
func TestBuild(t *testing.T) {
	for _, x := range []struct {
		l    []string
		want string
	}{
		{nil, "1:;"},
		{[]string{"()"}, "2: 0-1; 1"},
		{[]string{"a"}, "2: 0-a-1; 1"},
		{[]string{"[a-cx]"}, "2: 0-[a-cx]-1; 1"},
		{[]string{"ab"}, "3: 0-a-1 1-b-2; 2"},
		{[]string{"a()b"}, "4: 0-a-1 1-2 2-b-3; 3"},
		{[]string{"a(bc)d"}, "5: 0-a-1 1-b-2 2-c-3 3-d-4; 4"},
		{[]string{"a|b"}, "6: 0-1 1-a-2 0-3 3-b-4 2-5 4-5; 5"},
		{[]string{"a|b|c"}, "8: 0-1 1-a-2 0-3 3-b-4 0-5 5-c-6 2-7 4-7 6-7; 7"},
		{[]string{"ab|()"}, "7: 0-1 1-a-2 2-b-3 0-4 4-5 3-6 5-6; 6"},
		{[]string{"(a|b)|c"}, "10: 0-1 1-2 2-a-3 1-4 4-b-5 3-6 5-6 0-7 7-c-8 6-9 8-9; 9"},
		{[]string{"a*"}, "4: 0-1 1-a-2 2-1 1-3; 3"},
		{[]string{"a+"}, "4: 0-1 1-a-2 2-1 2-3; 3"},
		{[]string{"a?"}, "4: 0-1 1-a-2 2-3 0-3; 3"},
		{[]string{"(ab)*"}, "5: 0-1 1-a-2 2-b-3 3-1 1-4; 4"},
		{[]string{"(ab)+"}, "5: 0-1 1-a-2 2-b-3 3-1 3-4; 4"},
		{[]string{"(ab)?"}, "5: 0-1 1-a-2 2-b-3 3-4 0-4; 4"},
		{[]string{"()*"}, "4: 0-1 1-2 2-1 1-3; 3"},
		{[]string{"a**"}, "6: 0-1 1-2 2-a-3 3-2 2-4 4-1 1-5; 5"},
		{[]string{"a+?"}, "6: 0-1 1-2 2-a-3 3-2 3-4 4-5 0-5; 5"},
		{[]string{"a?+"}, "6: 0-1 1-2 2-a-3 3-4 1-4 4-1 4-5; 5"},
		{[]string{"a*b"}, "5: 0-1 1-a-2 2-1 1-3 3-b-4; 4"},
		{[]string{"ba?"}, "5: 0-b-1 1-2 2-a-3 3-4 1-4; 4"},
		{[]string{"a(b|c)*"}, "9: 0-a-1 1-2 2-3 3-b-4 2-5 5-c-6 4-7 6-7 7-2 2-8; 8"},
		{[]string{"a", "a*"}, "5: 0-a-1 0-2 2-a-3 3-2 2-4; 1 4"},
		{[]string{"a", "b", "()", "a"}, "5: 0-a-1 0-b-2 0-3 0-a-4; 1 2 3 4"},
		{[]string{"a?", "b|c", "de"}, "11: 0-1 1-a-2 2-3 0-3 0-4 4-b-5 0-6 6-c-7 5-8 7-8 0-d-9 9-e-10; 3 8 10"},
	} {
		n, e := nfa.Build(res(t, x.l...))
		if got := told(n); got != x.want || e != api.OK || n.Start != 0 {
			t.Errorf("%q: got %s, from %d, %d", x.l, got, n.Start, e)
		}
	}
}

// sets is an expression of so many Sets.
func sets(n int) api.Re {
	r := api.Re{Kind: api.Cat}
	for range n {
		r.L = append(r.L, api.Re{Kind: api.Set, Set: spans("aa")})
	}
	return r
}

func within(kind, times int, r api.Re) api.Re {
	for range times {
		r = api.Re{Kind: kind, L: []api.Re{r}}
	}
	return r
}

// P3.2: there are at most MaxStates states.
func TestBuildStates(t *testing.T) {
	a, none := api.Re{Kind: api.Set, Set: spans("aa")}, api.Re{Kind: api.Empty}
	const left = api.MaxStates - 1 // beside the state 0
	for _, x := range []struct {
		name string
		l    []api.Re
		want api.Errno
	}{
		{"as many Sets as go", []api.Re{sets(left)}, api.OK},
		{"one more", []api.Re{sets(left + 1)}, api.ErrStates},
		{"as many as go, an Empty among them", []api.Re{{Kind: api.Cat, L: []api.Re{sets(left - 1), none}}}, api.OK},
		{"one more, an Empty", []api.Re{{Kind: api.Cat, L: []api.Re{sets(left), none}}}, api.ErrStates},
		{"as many as go in an Alt", []api.Re{{Kind: api.Alt, L: []api.Re{sets(left - 4), a}}}, api.OK},
		{"one more in an Alt", []api.Re{{Kind: api.Alt, L: []api.Re{sets(left - 3), a}}}, api.ErrStates},
		{"as many as go in an Alt of three", []api.Re{{Kind: api.Alt, L: []api.Re{sets(left - 6), a, none}}}, api.OK},
		{"one more in an Alt of three", []api.Re{{Kind: api.Alt, L: []api.Re{sets(left - 5), a, none}}}, api.ErrStates},
		{"as many as go in a Star", []api.Re{within(api.Star, 1, sets(left-2))}, api.OK},
		{"one more in a Star", []api.Re{within(api.Star, 1, sets(left-1))}, api.ErrStates},
		{"as many as go in a Plus", []api.Re{within(api.Plus, 1, sets(left-2))}, api.OK},
		{"one more in a Plus", []api.Re{within(api.Plus, 1, sets(left-1))}, api.ErrStates},
		{"as many as go in an Opt", []api.Re{within(api.Opt, 1, sets(left-2))}, api.OK},
		{"one more in an Opt", []api.Re{within(api.Opt, 1, sets(left-1))}, api.ErrStates},
		{"as many as go in several", []api.Re{sets(900), none, sets(left - 902), a}, api.OK},
		{"one more in several", []api.Re{sets(900), none, sets(left - 901), a}, api.ErrStates},
		{"as many expressions as go", slices.Repeat([]api.Re{a}, left), api.OK},
		{"one expression more", slices.Repeat([]api.Re{a}, left+1), api.ErrStates},
		{"far too many", slices.Repeat([]api.Re{sets(1500)}, 1000), api.ErrStates},
	} {
		n, e := nfa.Build(x.l)
		states := 0
		if x.want == api.OK {
			states = api.MaxStates
		}
		if e != x.want || n.States != states {
			t.Errorf("%s: got %d states, %d", x.name, n.States, e)
		}
		if e != api.OK && (n.Start != 0 || len(n.Ends) != 0 || len(n.Edges) != 0) {
			t.Errorf("%s: beside the error %s", x.name, told(n))
		}
		if e == api.OK && nfa.Check(n) != api.OK {
			t.Errorf("%s: may not be", x.name)
		}
	}
}

// P3.2: the error of the first that has one, ahead of ErrStates.
func TestBuildRefuses(t *testing.T) {
	a := api.Re{Kind: api.Set, Set: spans("aa")}
	bad, deep := api.Re{Kind: api.Cat, L: []api.Re{a}}, within(api.Star, api.MaxDeep, a)
	large := sets(api.MaxStates)
	for _, x := range []struct {
		name string
		l    []api.Re
		want api.Errno
	}{
		{"what may not be", []api.Re{bad}, api.ErrArg},
		{"nothing", []api.Re{{}}, api.ErrArg},
		{"kind 8", []api.Re{{Kind: 8, L: []api.Re{a}}}, api.ErrArg},
		{"a Set out of order", []api.Re{{Kind: api.Set, Set: spans("bbaa")}}, api.ErrArg},
		{"what is too deep", []api.Re{deep}, api.ErrDeep},
		{"both, in one", []api.Re{{Kind: api.Cat, L: []api.Re{deep, bad}}}, api.ErrArg},
		{"the second", []api.Re{a, bad, a}, api.ErrArg},
		{"the last", []api.Re{a, a, deep}, api.ErrDeep},
		{"what may not be, and then what is too deep", []api.Re{a, bad, deep}, api.ErrArg},
		{"what is too deep, and then what may not be", []api.Re{a, deep, bad}, api.ErrDeep},
		{"what may not be, behind too many", []api.Re{large, bad}, api.ErrArg},
		{"what is too deep, behind too many", []api.Re{large, large, deep}, api.ErrDeep},
		{"what may not be, ahead of too many", []api.Re{bad, large}, api.ErrArg},
		{"one that is both too large and too deep", []api.Re{within(api.Plus, api.MaxDeep, large)}, api.ErrDeep},
	} {
		if n, e := nfa.Build(x.l); e != x.want || n.States != 0 || n.Start != 0 || len(n.Ends) != 0 || len(n.Edges) != 0 {
			t.Errorf("%s: got %s, %d", x.name, told(n), e)
		}
	}
}

// P3.2: the deepest expressions that may be.
func TestBuildDeep(t *testing.T) {
	for _, kind := range []int{api.Star, api.Plus, api.Opt} {
		r := within(kind, api.MaxDeep-1, api.Re{Kind: api.Set, Set: spans("aa")})
		n, e := nfa.Build([]api.Re{r})
		if e != api.OK || n.States != 2*api.MaxDeep || nfa.Check(n) != api.OK {
			t.Fatalf("kind %d: got %d states, %d", kind, n.States, e)
		}
		for s, want := range map[string]bool{"": kind != api.Plus, "a": true, "aaa": kind != api.Opt, "ab": false} {
			if got := len(nfa.Run(n, s)) == 1; got != want {
				t.Errorf("kind %d, %q: got %v", kind, s, got)
			}
		}
	}
}

// R1: Build ends, however deep an expression is: also where a call a level would need more stack than there is.
func TestBuildVeryDeep(t *testing.T) {
	defer debug.SetMaxStack(debug.SetMaxStack(1 << 20))
	if _, e := nfa.Build([]api.Re{within(api.Star, 100_000, sets(2))}); e != api.ErrDeep {
		t.Errorf("got %d", e)
	}
}

// R2: what was handed in stays what it is; what was answered does not hang on it, and no two of its lists on each other.
func TestBuildIsNotShared(t *testing.T) {
	set := spans("acee")
	a := api.Re{Kind: api.Set, Set: set}
	l := []api.Re{{Kind: api.Cat, L: []api.Re{a, a}}, a}
	const want = "4: 0-[a-ce]-1 1-[a-ce]-2 0-[a-ce]-3; 2 3"
	n, _ := nfa.Build(l)
	if !slices.Equal(set, spans("acee")) || told(n) != want {
		t.Fatalf("got %s", told(n))
	}
	set[0].Lo = 'b'
	l[1] = api.Re{}
	if got := told(n); got != want {
		t.Errorf("what was answered is %s now", got)
	}
	set[0].Lo = 'a'
	for i, x := range n.Edges {
		_ = append(x.Set, api.Span{})
		clear(x.Set)
		for _, y := range n.Edges[i+1:] {
			if !slices.Equal(y.Set, spans("acee")) {
				t.Fatalf("behind a change of the edge %d: %v", i, n.Edges)
			}
		}
	}
	if !slices.Equal(set, spans("acee")) {
		t.Errorf("what was handed in is %v now", set)
	}
}

// someText is a text of an expression, of at most that depth.
func someText(r *rand.Rand, depth int) string {
	if depth == 1 {
		return []string{"()", "a", "b", "[ab]", "[^a]", "."}[r.Intn(6)]
	}
	x, y := "("+someText(r, depth-1)+")", "("+someText(r, depth-1)+")"
	return []string{x + y, x + "|" + y, x + "*", x + "+", x + "?", x + "|" + y + "|", x + y + x, x}[r.Intn(8)]
}

// P3.2, P3.4: what is built may be, and Run has i, just if the i-th expression matches.
func TestRunOfBuild(t *testing.T) {
	r := rand.New(rand.NewSource(8))
	texts := []string{""}
	for i := 0; len(texts) < 127; i++ {
		texts = append(texts, texts[i]+"a", texts[i]+"b")
	}
	texts = append(texts, "c", "ca", "aca", "\n", "a\n", "\x00", "\xff\xff")
	yes, no := 0, 0
	for range 400 {
		var l []string
		for range r.Intn(4) {
			l = append(l, someText(r, 1+r.Intn(5)))
		}
		rs := res(t, l...)
		n := built(t, l...)
		if e := nfa.Check(n); e != api.OK {
			t.Fatalf("%q: may not be: %s", l, told(n))
		}
		for _, s := range texts {
			var want []int
			for i, x := range rs {
				if regex.Match(x, s) {
					want = append(want, i)
				}
			}
			if got := nfa.Run(n, s); !slices.Equal(got, want) {
				t.Fatalf("%q, %q: got %v, want %v", l, s, got, want)
			}
			yes, no = yes+len(want), no+len(rs)-len(want)
		}
	}
	if yes < 5000 || no < 5000 {
		t.Errorf("%d matches, %d others: the expressions tell too little", yes, no)
	}
}
