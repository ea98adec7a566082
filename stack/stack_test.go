package stack_test

import (
	"math"
	"slices"
	"strings"
	"testing"

	"quincunx/api"
	"quincunx/check"
	"quincunx/grammar"
	"quincunx/stack"
)

// read makes a grammar by numbers of its text; its tokens have blanks between.
func read(t testing.TB, s, tokens string) api.Cfg {
	t.Helper()
	g, at, e := grammar.Parse(s)
	if e != api.OK {
		t.Fatalf("%q: %d at %d", s, e, at)
	}
	c, e := check.Number(g, strings.Fields(tokens))
	if e != api.OK {
		t.Fatalf("%q, %q: %d, %v", s, tokens, e, check.Flaws(g, strings.Fields(tokens)))
	}
	return c
}

// two are an old grammar and a new one of the same tokens. A pair is told as "a S, b T": the old one's names, and the new one's.
type two struct{ c, d api.Cfg }

func readTwo(t testing.TB, old, new, tokens string) two {
	t.Helper()
	return two{read(t, old, tokens), read(t, new, tokens)}
}

// pair is the one that a text tells.
func (g two) pair(t testing.TB, s string) api.Pair {
	t.Helper()
	a, b, is := strings.Cut(s, ",")
	if !is {
		t.Fatalf("%q: no pair", s)
	}
	return api.Pair{A: numbers(t, g.c, a), B: numbers(t, g.d, b)}
}

// numbers are those of names that have blanks between, of tokens and rules.
func numbers(t testing.TB, c api.Cfg, s string) []int {
	t.Helper()
	var l []int
	for _, name := range strings.Fields(s) {
		if n := slices.Index(c.Tokens, name); n >= 0 {
			l = append(l, n)
		} else if r := slices.Index(c.Names, name); r >= 0 {
			l = append(l, -1-r)
		} else {
			t.Fatalf("%q: no %s", s, name)
		}
	}
	return l
}

// text tells pairs, with a ; between, as pair reads them.
func (g two) text(l ...api.Pair) string {
	var out []string
	for _, p := range l {
		out = append(out, names(g.c, p.A)+", "+names(g.d, p.B))
	}
	return strings.Join(out, "; ")
}

func names(c api.Cfg, l []int) string {
	var out []string
	for _, n := range l {
		if n < 0 {
			out = append(out, c.Names[-1-n])
		} else {
			out = append(out, c.Tokens[n])
		}
	}
	return strings.Join(out, " ")
}

// isNothing tells whether both lists have no elements.
func isNothing(p api.Pair) bool { return len(p.A) == 0 && len(p.B) == 0 }

// P15.1: pairs are the same just if both lists are.
func TestSame(t *testing.T) {
	pair := func(a []int, b ...int) api.Pair { return api.Pair{A: a, B: b} }
	a := []int{0, -1, 1}
	for _, x := range []struct {
		name string
		p, q api.Pair
		want bool
	}{
		{"nothing", api.Pair{}, api.Pair{}, true},
		{"nothing, and empty lists", api.Pair{}, api.Pair{A: []int{}, B: []int{}}, true},
		{"the same", pair(a, 0, -2), pair([]int{0, -1, 1}, 0, -2), true},
		{"A alone", pair(a), pair(a), true},
		{"B alone", pair(nil, 0, -2), pair([]int{}, 0, -2), true},
		{"another first one of A", pair(a, 0), pair([]int{1, -1, 1}, 0), false},
		{"another last one of A", pair(a, 0), pair([]int{0, -1, 0}, 0), false},
		{"another one of B", pair(a, 0, 1), pair(a, 0, -1), false},
		{"another first one of B", pair(a, 0, 1), pair(a, 1, 1), false},
		{"one more in A", pair(a, 0), pair([]int{0, -1, 1, 0}, 0), false},
		{"one more in B", pair(a, 0), pair(a, 0, 0), false},
		{"one, and none, in A", pair([]int{0}), pair(nil), false},
		{"one, and none, in B", pair(a, 0), pair(a), false},
		{"another order of A", pair(a), pair([]int{1, -1, 0}), false},
		{"another order of B", pair(a, 0, 1), pair(a, 1, 0), false},
		{"exchanged", pair([]int{0}, 1), pair([]int{1}, 0), false},
		{"exchanged, one empty", pair([]int{0}), pair(nil, 0), false},
		{"cut elsewhere", pair([]int{0, 1}, 2), pair([]int{0}, 1, 2), false},
		{"the same numbers in both", pair([]int{0}, 0, 0), pair([]int{0, 0}, 0), false},
		{"a token, and a rule", pair([]int{0}), pair([]int{-1}), false},
		{"a token, and a rule, of one amount", pair([]int{1}), pair([]int{-1}), false},
		{"far numbers", pair([]int{math.MinInt}, math.MaxInt), pair([]int{math.MinInt}, math.MaxInt), true},
		{"other far numbers", pair([]int{math.MinInt}, 0), pair([]int{math.MinInt + 1}, 0), false},
		{"numbers that are the same in 32 bits", pair([]int{1}, 0), pair([]int{1<<32 + 1}, 0), false},
		{"numbers that are the same in 8 bits", pair(nil, -1), pair(nil, 255), false},
	} {
		if got, other := stack.Same(x.p, x.q), stack.Same(x.q, x.p); got != x.want || other != x.want {
			t.Errorf("%s: got %v and %v", x.name, got, other)
		}
	}
}

const (
	oldText = "S = a S b | T ; T = c | ; U = S T | a U ;"
	newText = "S = T a | b ; T = a S b | c | ;"
	toks    = "a b c"
)

// readBoth are an old grammar and a new one; U of the old one is none of the new one's rules.
func readBoth(t testing.TB) two { return readTwo(t, "V = S U ; "+oldText, newText, toks) }

// P15.1: what Drop takes away.
func TestDrop(t *testing.T) {
	g := readBoth(t)
	for _, x := range []struct{ p, want string }{ // no want: there is none
		{"a S, a T", "S, T"}, // the chapter's example
		{"a, a", ", "},
		{"b, b", ", "},
		{"a b c, a c b", "b c, c b"},
		{"a a, a a", "a, a"}, // just one
		{"a, a S T", ", S T"},
		{"c S S a, c", "S S a, "},
		{",", ""},
		{"a,", ""},
		{",a", ""},
		{"a, b", ""},
		{"a S, b S", ""},
		{"b a, a b", ""}, // the first ones count
		{"a b, b b", ""},
		{"S, S", ""},     // by their names, not by their numbers
		{"V, S", ""},     // by their numbers
		{"S a, T a", ""}, // likewise
		{"a, S", ""},
		{"S, a", ""},
	} {
		got, is := stack.Drop(g.pair(t, x.p))
		if is != (x.want != "") || is && g.text(got) != x.want || !is && !isNothing(got) {
			t.Errorf("%q: got %v, %q, want %q", x.p, is, g.text(got), x.want)
		}
	}
}

// P15.1: any number from 0 on is a token's for Drop, and none below.
func TestDropOfNumbers(t *testing.T) {
	for _, n := range []int{0, 1, 59, 60, 255, 1 << 31, 1<<63 - 1, math.MaxInt, -1, -2, -60, -61, -1 << 31, math.MinInt + 1, math.MinInt} {
		got, is := stack.Drop(api.Pair{A: []int{n, n, 5}, B: []int{n, -7}})
		if want := (api.Pair{A: []int{n, 5}, B: []int{-7}}); is != (n >= 0) || is && !stack.Same(got, want) || !is && !isNothing(got) {
			t.Errorf("%d: got %v, %v", n, got, is)
		}
		if n > math.MinInt {
			got, is = stack.Drop(api.Pair{A: []int{n}, B: []int{-n}})
			if is != (n == 0) || !isNothing(got) {
				t.Errorf("%d and %d: got %v, %v", n, -n, got, is)
			}
		}
		if got, is = stack.Drop(api.Pair{A: []int{n}, B: []int{n ^ 1<<32}}); is || !isNothing(got) {
			t.Errorf("%d, and other high bits: got %v, %v", n, got, is)
		}
	}
}

// P15.1: what Old puts in the place of a rule.
func TestOld(t *testing.T) {
	g := readBoth(t)
	for _, x := range []struct {
		p, want string
		is      bool
	}{
		{"S, T", "a S b, T; T, T", true},
		{"T, S", "c, S; , S", true},
		{"T,", "c, ; , ", true},
		{"S,", "a S b, ; T, ", true},
		{"U, T a", "S T, T a; a U, T a", true}, // of a number that is no rule's of the new one
		{"V, T a", "S U, T a", true},           // one alternative
		{"S a, S", "a S b a, S; T a, S", true},
		{"T a b T, a", "c a b T, a; a b T, a", true},
		{"S S S, S S", "a S b S S, S S; T S S, S S", true}, // just the first one
		{"T, a b c S T", "c, a b c S T; , a b c S T", true},
		{",", "", false},
		{",S", "", false},
		{"a,", "", false},
		{"a, a", "", false},
		{"a S, S", "", false},
		{"c T, T", "", false},
	} {
		got, is := stack.Old(g.c, g.pair(t, x.p))
		if is != x.is || g.text(got...) != x.want || !is && len(got) != 0 {
			t.Errorf("%q: got %v, %q, want %q", x.p, is, g.text(got...), x.want)
		}
	}
	h := readTwo(t, "S = a S b | ;", "S = T ; T = a ;", "a b")
	if got, is := stack.Old(h.c, h.pair(t, "S, T")); !is || h.text(got...) != "a S b, T; , T" { // the chapter's example
		t.Errorf("got %v, %q", is, h.text(got...))
	}
}

// P15.1: what New puts in the place of a rule.
func TestNew(t *testing.T) {
	g := readBoth(t)
	for _, x := range []struct {
		p    string
		alt  int
		want string // none: there is none
	}{
		{"S, S", 0, "S, T a"},
		{"S, S", 1, "S, b"},
		{"U, T", 0, "U, a S b"},
		{"U, T", 1, "U, c"},
		{"U, T", 2, "U, "},
		{", T", 2, ", "},
		{"a b, S a", 0, "a b, T a a"},
		{"c, T S", 0, "c, a S b S"},
		{"c, T T T", 2, "c, T T"}, // just the first one
		{"T S U, S S", 1, "T S U, b S"},
		{"S, S", 2, ""},
		{"S, S", -1, ""},
		{"S, T", 3, ""},
		{"S, S", math.MaxInt, ""},
		{"S, S", math.MinInt, ""},
		{"S, S", 1 << 32, ""},
		{",", 0, ""},
		{"S,", 0, ""},
		{"S, a", 0, ""},
		{"S, a S", 0, ""},
		{"S, c T", 1, ""},
	} {
		got, is := stack.New(g.d, g.pair(t, x.p), x.alt)
		if is != (x.want != "") || is && g.text(got) != x.want || !is && !isNothing(got) {
			t.Errorf("%q, %d: got %v, %q, want %q", x.p, x.alt, is, g.text(got), x.want)
		}
	}
}

// P15.1: where Split parts a pair.
func TestSplit(t *testing.T) {
	g := readBoth(t)
	for _, x := range []struct{ p, want string }{ // no want: there are none
		{"a S, a T", "a, a; S, T"}, // the chapter's example
		{"a, a", "a, a; , "},
		{"S, T", "S, T; , "},
		{"S b, a", "S, a; b, "},
		{"a, T b", "a, T; , b"},
		{"a, b", "a, b; , "},
		{"S a b, T b a c", "S, T; a b, b a c"},
		{"U S T, S S", "U, S; S T, S"},
		{",", ""},
		{"a,", ""},
		{", a", ""},
		{"S T a,", ""},
		{", T S", ""},
	} {
		first, rest, is := stack.Split(g.pair(t, x.p))
		if is != (x.want != "") || is && g.text(first, rest) != x.want || !is && !(isNothing(first) && isNothing(rest)) {
			t.Errorf("%q: got %v, %q, want %q", x.p, is, g.text(first, rest), x.want)
		}
	}
}

// P15.2: what it hangs on that a pair holds, by each way.
func TestNext(t *testing.T) {
	g := readBoth(t)
	for _, x := range []struct {
		p        string
		how, alt int
		want     string
		is       bool
	}{
		{",", api.ByEnd, 0, "", true},
		{",", api.ByEnd, 7, "", true}, // but by ByNew alt is not asked for
		{"a,", api.ByEnd, 0, "", false},
		{", a", api.ByEnd, 0, "", false},
		{"T,", api.ByEnd, 0, "", false}, // also if the empty sentence comes from it
		{", T", api.ByEnd, 0, "", false},
		{"a, a", api.ByEnd, 0, "", false},
		{"a S, a T", api.ByDrop, 0, "S, T", true},
		{"a S, a T", api.ByDrop, -1, "S, T", true},
		{"b, b", api.ByDrop, 9, ", ", true},
		{"a, b", api.ByDrop, 0, "", false},
		{"V, S", api.ByDrop, 0, "", false},
		{",", api.ByDrop, 0, "", false},
		{"a,", api.ByDrop, 0, "", false},
		{"S a, T", api.ByOld, 0, "a S b a, T; T a, T", true},
		{"S a, T", api.ByOld, 1, "a S b a, T; T a, T", true},
		{"S a, T", api.ByOld, 5, "a S b a, T; T a, T", true},
		{"V, c", api.ByOld, -3, "S U, c", true},
		{"a, T", api.ByOld, 0, "", false},
		{", T", api.ByOld, 0, "", false},
		{"S a, T b", api.ByNew, 0, "S a, a S b b", true},
		{"S a, T b", api.ByNew, 1, "S a, c b", true},
		{"S a, T b", api.ByNew, 2, "S a, b", true},
		{"a, S", api.ByNew, 1, "a, b", true},
		{"S a, T b", api.ByNew, 3, "", false},
		{"S a, T b", api.ByNew, -1, "", false},
		{"S, a", api.ByNew, 0, "", false},
		{"S,", api.ByNew, 0, "", false},
		{"S a, T b", api.BySplit, 0, "S, T; a, b", true},
		{"S a, T b", api.BySplit, 8, "S, T; a, b", true},
		{"a, c", api.BySplit, 0, "a, c; , ", true},
		{"S,", api.BySplit, 0, "", false},
		{", T", api.BySplit, 0, "", false},
		{",", api.BySplit, 0, "", false},
	} {
		got, is := stack.Next(g.c, g.d, api.Proof{P: g.pair(t, x.p), How: x.how, Alt: x.alt})
		if is != x.is || g.text(got...) != x.want || !is && len(got) != 0 {
			t.Errorf("%q by %d, %d: got %v, %q, want %q", x.p, x.how, x.alt, is, g.text(got...), x.want)
		}
	}
}

// P15.2: of another way there is nothing, whatever the pair is.
func TestNextOfOtherWays(t *testing.T) {
	g := readBoth(t)
	for _, how := range []int{0, 6, 7, -1, -2, -3, -4, -5, 1 << 32, 1<<32 + 1, 257, 261, math.MaxInt, math.MinInt} {
		for _, p := range []string{",", "a,", ", a", "a, a", "a S, a T", "S, T", "S a, T b", "S,", ", T", "S, a", "a, T"} {
			for alt := range 2 {
				if got, is := stack.Next(g.c, g.d, api.Proof{P: g.pair(t, p), How: how, Alt: alt}); is || len(got) != 0 {
					t.Errorf("%q by %d: got %v", p, how, got)
				}
			}
		}
	}
}
