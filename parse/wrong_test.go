package parse_test

import (
	"fmt"
	"math"
	"math/rand"
	"slices"
	"testing"

	"quincunx/api"
	"quincunx/parse"
)

// one is a grammar of a rule and a token that has these alternatives.
func one(alts ...[]int) api.Cfg {
	return api.Cfg{Tokens: []string{"a"}, Names: []string{"S"}, Alts: [][][]int{alts}}
}

// askAll asks all that may be asked by a table, of several lists.
func askAll(c api.Cfg, l [][]int) {
	for _, toks := range [][]int{nil, {0}, {0, 0}, {0, 0, 0, 0}, {1}, {0, 1}, {-1}, {math.MinInt}, {math.MaxInt, 0}} {
		parse.Parse(c, l, toks)
		parse.Wanted(c, l, toks)
	}
}

// R1: of grammars that may not be, and tables that are not theirs, all calls end.
func TestOfOthers(t *testing.T) {
	sums := read(t, sums, "p m l r n")
	for _, c := range []api.Cfg{
		{},
		{Tokens: []string{"a"}},
		{Names: []string{"S"}},
		{Alts: [][][]int{{{}}}},
		{Alts: [][][]int{{{0, -1}}}},
		{Alts: [][][]int{nil, nil}},
		{Names: []string{"S", "T"}, Tokens: []string{"a"}, Alts: [][][]int{{{-2}, {}}}},
		{Tokens: []string{"a", "b"}, Alts: [][][]int{{{0, -2}, {-2, 1}}, {{}, {0}}}},
		one(),
		one(nil),
		one([]int{0}),
		one([]int{-1}), // for ever
		one([]int{-1, -1}, []int{-1, 0}),
		one([]int{0, -1}, []int{-1, 0}),
		one([]int{0}, []int{1}), // the end's number
		one([]int{0, 1, 1, 1}, []int{1}),
		one([]int{0, -2}, []int{-2}),
		one([]int{0, math.MaxInt}, []int{math.MaxInt}),
		one([]int{0, math.MinInt}, []int{math.MinInt}),
		sums.c,
	} {
		for _, l := range [][][]int{
			nil,
			{},
			{nil},
			{{}},
			{{0}},
			{{1}},
			{{0, 0}},
			{{0, 1}},
			{{1, 0}},
			{{1, 1}},
			{{-1, -1}},
			{{-2, -2}},
			{{2, 2}},
			{{60, 60}},
			{{math.MaxInt, math.MaxInt}},
			{{math.MinInt, math.MinInt}},
			{{0, 0}, nil},
			{{0, 0}, {0, 0}},
			{{1, 1}, {1, 1}, {1, 1}},
			{{0, 1, 0, 1, 0}, {1, 0, 1, 0, 1}},
			sums.t,
		} {
			askAll(c, l)
		}
	}
}

// R1: random grammars and tables, most of which may not be.
func TestOfRandomOthers(t *testing.T) {
	r := rand.New(rand.NewSource(3))
	for range 3000 {
		c := api.Cfg{Tokens: make([]string, r.Intn(3)), Names: make([]string, r.Intn(4))}
		for range len(c.Names) + r.Intn(6)/5 {
			alts := make([][]int, r.Intn(4))
			for i := range alts {
				for range r.Intn(4) {
					alts[i] = append(alts[i], r.Intn(8)-4)
				}
			}
			c.Alts = append(c.Alts, alts)
		}
		l := make([][]int, r.Intn(5))
		for i := range l {
			for range r.Intn(4) {
				l[i] = append(l[i], r.Intn(5)-1)
			}
		}
		askAll(c, l)
	}
}

// R1, R6: of grammars, tables and lists that are far too great all calls end.
func TestOfGreatOthers(t *testing.T) {
	const n = 1 << 20
	zeros := make([]int, n)
	l := [][]int{{0, 0}}
	for _, c := range []api.Cfg{
		one(slices.Repeat([]int{-1}, n)), // of each of the first 20000 there would be n more
		one(zeros),
		one(append([]int{-1}, zeros...)),
		one(append([]int{0, -1}, zeros...)),
		one(append(zeros, -1)),
	} {
		askAll(c, l)
		parse.Parse(c, l, zeros)
		parse.Wanted(c, l, zeros)
	}
	many := api.Cfg{Tokens: make([]string, n), Names: make([]string, n), Alts: slices.Repeat([][][]int{{{n - 1}}}, n)}
	askAll(many, slices.Repeat([][]int{zeros}, n))
	askAll(many, [][]int{zeros})
}

// R1: trees that are as deep as they are long.
func TestDeepTrees(t *testing.T) {
	x := read(t, "S = a S | ;", "a")
	n, at, e := x.parse(make([]int, 9999))
	if e != api.OK || at != 0 || size(n) != 19999 || len(tokensOf(n)) != 9999 || slices.Contains(tokensOf(n), -1) {
		t.Errorf("got %d at %d, %d nodes", e, at, size(n))
	}
	depth := 0
	for ; n.Alt == 0; n = n.Kids[1] {
		depth++
	}
	if depth != 9999 {
		t.Errorf("got %d", depth)
	}
}

// R2, R5: what was handed in stays what it is, and the same comes again.
func TestCallsChangeNothing(t *testing.T) {
	r := rand.New(rand.NewSource(4))
	for range 1000 {
		x := anyLang(r)
		toks := make([]int, r.Intn(6), 8)
		for i := range toks {
			toks[i] = r.Intn(len(x.c.Tokens))
		}
		behind := toks[len(toks):cap(toks)]
		for i := range behind {
			behind[i] = 7
		}
		was := fmt.Sprint(x, toks, behind)
		once := func() string {
			n, at, e := x.parse(toks)
			return fmt.Sprint(n, at, e, x.wanted(toks))
		}
		if one, other := once(), once(); one != other {
			t.Fatalf("%s: got %s, then %s", was, one, other)
		}
		if is := fmt.Sprint(x, toks, behind); is != was {
			t.Fatalf("%s: now %s", was, is)
		}
	}
}

// R2: what is answered is the caller's: no list of it is shared with another one, or with what was asked of.
func TestListsShareNothing(t *testing.T) {
	x := read(t, "S = a S T b | c ; T = c | ;", "a b c")
	toks := x.toks("a a a c c b b c b")
	want := "S0(a0 S0(a1 S0(a2 S1(c3) T0(c4) b5) T1 b6) T0(c7) b8)"
	n, _, e := x.parse(toks)
	other, _, _ := x.parse(toks)
	if got := x.told(n); e != api.OK || got != want {
		t.Fatalf("got %d, %s, want %s", e, got, want)
	}
	var lists [][]api.Tree
	var gather func(api.Tree)
	gather = func(n api.Tree) {
		lists = append(lists, n.Kids)
		for _, kid := range n.Kids {
			gather(kid)
		}
	}
	gather(n)
	for _, l := range lists {
		_ = append(l, slices.Repeat([]api.Tree{{Sym: 1, At: 77}}, 40)[:cap(l)-len(l)]...)
	}
	if got := x.told(n); got != want {
		t.Errorf("behind lists: got %s, want %s", got, want)
	}
	for _, l := range lists {
		for i := range l {
			l[i] = api.Tree{Sym: 1, At: 88}
		}
	}
	if got := x.told(other); got != want {
		t.Errorf("in lists: got %s, want %s", got, want)
	}
	mine, yours := x.wanted(nil), x.wanted(nil)
	mine[0] = 88
	if !slices.Equal(yours, []int{0, 2}) {
		t.Errorf("got %v", yours)
	}
	for i := range toks { // behind the call
		toks[i] = 1
	}
	x.c.Alts[0][0][1], x.c.Alts[0][1], x.t[0][0] = 1, nil, 1
	x.c.Tokens, x.c.Names = []string{"a", "b", "c"}, []string{"S", "T"}
	if got := x.told(other); got != want {
		t.Errorf("behind the call: got %s, want %s", got, want)
	}
}
