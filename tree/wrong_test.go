package tree_test

import (
	"fmt"
	"math"
	"math/rand"
	"runtime/debug"
	"slices"
	"strings"
	"testing"

	"quincunx/api"
	"quincunx/tree"
)

// askAll asks all that may be asked of a grammar and a tree, whatever they are.
func askAll(c api.Cfg, n api.Tree) {
	toks, steps := tree.Yield(n), tree.Steps(n)
	for _, l := range [][]int{nil, toks, steps, {0}, {0, 0}, {-1}, {math.MinInt, math.MaxInt}, append(slices.Clone(toks), 0)} {
		tree.Check(c, n, l)
	}
	for _, l := range [][]int{nil, steps, toks, {0}, {0, 0, 0}, {1, 0}, {-1}, {math.MinInt}, {math.MaxInt, 0}} {
		tree.Grow(c, l)
	}
	tree.Size(n)
	tree.Text(c, n)
}

// anyTree is one of any numbers.
func anyTree(r *rand.Rand, depth int) api.Tree {
	number := func() int {
		if r.Intn(8) == 0 {
			return []int{math.MinInt, math.MinInt + 1, math.MaxInt, 1 << 32, -1 << 32}[r.Intn(5)]
		}
		return r.Intn(8) - 5
	}
	n := api.Tree{Sym: number(), Alt: number(), At: number()}
	for range r.Intn(4) {
		if depth > 0 {
			n.Kids = append(n.Kids, anyTree(r, depth-1))
		}
	}
	return n
}

// othersCfg is one of any numbers and lengths; most may not be.
func othersCfg(r *rand.Rand) api.Cfg {
	c := api.Cfg{Tokens: make([]string, r.Intn(3)), Names: make([]string, r.Intn(4))}
	for range len(c.Names) + r.Intn(3) - 1 {
		alts := make([][]int, r.Intn(4))
		for i := range alts {
			for range r.Intn(4) {
				alts[i] = append(alts[i], r.Intn(8)-4)
			}
		}
		c.Alts = append(c.Alts, alts)
	}
	return c
}

// R1: of random trees and grammars, most of which may not be, all calls end.
func TestOfRandomOthers(t *testing.T) {
	r := rand.New(rand.NewSource(6))
	for range 5000 {
		askAll(othersCfg(r), anyTree(r, 4))
	}
	for _, c := range []api.Cfg{
		{},
		{Names: []string{"S"}},
		{Alts: [][][]int{{{}}}},
		{Names: []string{"S"}, Alts: [][][]int{{{math.MinInt, math.MaxInt}}, {{-2}}}},
		{Names: []string{"S"}, Alts: [][][]int{{{-1}, {-1, -1}}}}, // for ever
	} {
		for range 20 {
			askAll(c, anyTree(r, 3))
		}
		tree.Grow(c, make([]int, 100000))
	}
}

// R1, P13.1: trees that are deeper than calls within calls should be. (A derivation may have more nodes than are grown.)
func TestDeepTrees(t *testing.T) {
	const depth = 200_000
	defer debug.SetMaxStack(debug.SetMaxStack(1 << 20))
	c := read(t, "S = S a | ;", "a")
	n := rule(0, 1)
	toks := make([]int, depth)
	for i := range toks {
		n = rule(0, 0, n, tok(0, i))
	}
	if !tree.Check(c, n, toks) || tree.Check(c, n, toks[1:]) {
		t.Error("Check")
	}
	if got := tree.Size(n); got != 2*depth+1 {
		t.Errorf("%d nodes", got)
	}
	if got := tree.Yield(n); !slices.Equal(got, toks) {
		t.Errorf("%d tokens", len(got))
	}
	steps := append(make([]int, depth), 1)
	if got := tree.Steps(n); !slices.Equal(got, steps) {
		t.Errorf("%d steps", len(got))
	}
	if got := tree.Text(c, n); got != strings.Repeat("S(", depth)+"S()"+strings.Repeat(" a)", depth) {
		t.Errorf("a text of %d bytes", len(got))
	}
	in := tok(0, 0)
	for range depth {
		in = api.Tree{Sym: 0, Kids: []api.Tree{in}}
	}
	if got := tree.Size(in); got != depth+1 || tree.Text(c, in) != "a" || len(tree.Yield(in)) != 1 || tree.Check(c, rule(0, 0, rule(0, 1), in), []int{0}) {
		t.Errorf("in a token: %d nodes", got)
	}
}

// R6: trees and grammars that are far too wide.
func TestWideTrees(t *testing.T) {
	const n = 1 << 19
	wide := rule(0, 0, make([]api.Tree, n)...)
	for i := range wide.Kids {
		wide.Kids[i].At = i
	}
	zeros := make([]int, n)
	c := api.Cfg{Tokens: []string{"a"}, Names: []string{"S"}, Alts: [][][]int{{zeros}}}
	if !tree.Check(c, wide, zeros) || tree.Check(c, wide, zeros[1:]) || tree.Size(wide) != n+1 || !slices.Equal(tree.Yield(wide), zeros) {
		t.Error("another answer")
	}
	if got := tree.Text(c, wide); got != "S("+strings.Repeat("a ", n-1)+"a)" {
		t.Errorf("a text of %d bytes", len(got))
	}
	refused(t, "far too many tokens", c, []int{0}, 1, api.ErrLong)
	c.Alts[0] = [][]int{slices.Repeat([]int{-1}, n)} // of each of the first 20000 there would be n more
	refused(t, "far too many rules", c, zeros, 20000, api.ErrLong)
	c.Alts[0] = [][]int{append(slices.Repeat([]int{-1}, n), 0), {}}
	refused(t, "far too many empty ones", c, append([]int{0}, slices.Repeat([]int{1}, n)...), 20000, api.ErrLong)
	many := api.Cfg{Tokens: make([]string, n), Names: make([]string, n), Alts: slices.Repeat([][][]int{{{n - 1}, {-n}}}, n)}
	got, at, e := tree.Grow(many, []int{1, 0})
	if e != api.OK || at != 0 || !same(got, rule(0, 1, rule(n-1, 0, tok(n-1, 0)))) || !tree.Check(many, got, []int{n - 1}) {
		t.Errorf("got %d behind %d", e, at)
	}
}

// R2, R5: what was handed in stays what it is, and the same comes again.
func TestCallsChangeNothing(t *testing.T) {
	r := rand.New(rand.NewSource(7))
	for i := range 2000 {
		c, n := anyCfg(r), anyTree(r, 3)
		if d, is := anyDerivation(r, c); is && i%2 == 0 {
			n = d
		}
		steps := append(make([]int, 0, 80), tree.Steps(n)...)
		toks := append(make([]int, 0, 80), tree.Yield(n)...)
		told := func() string { return fmt.Sprint(c, n, steps[:cap(steps)], toks[:cap(toks)]) }
		was := told()
		once := func() string {
			grown, at, e := tree.Grow(c, steps)
			return fmt.Sprint(tree.Check(c, n, toks), tree.Yield(n), tree.Size(n), tree.Steps(n), grown, at, e, tree.Text(c, n))
		}
		if one, other := once(), once(); one != other {
			t.Fatalf("%s: got %s, then %s", was, one, other)
		}
		if is := told(); is != was {
			t.Fatalf("%s: now %s", was, is)
		}
	}
}

// R2: what is answered is the caller's: no list of it is shared with another one, or with what was asked of.
func TestListsShareNothing(t *testing.T) {
	c := read(t, "S = a S T b | c ; T = c | ;", "a b c")
	steps := []int{0, 0, 0, 1, 0, 1, 0}
	want := "S(a S(a S(a S(c) T(c) b) T() b) T(c) b)"
	n, _, e := tree.Grow(c, steps)
	other, _, _ := tree.Grow(c, steps)
	if got := tree.Text(c, n); e != api.OK || got != want {
		t.Fatalf("got %d, %s, want %s", e, got, want)
	}
	var lists [][]api.Tree
	var gather func(api.Tree)
	gather = func(n api.Tree) {
		lists = append(lists, n.Kids)
		for _, kid := range n.Kids {
			gather(kid)
		}
	}
	gather(n)
	for _, l := range lists { // behind one there is no other one
		_ = append(l, make([]api.Tree, cap(l)-len(l))...)
	}
	if got := tree.Text(c, n); got != want {
		t.Errorf("behind lists: got %s, want %s", got, want)
	}
	for _, l := range lists {
		for i := range l {
			l[i] = api.Tree{Sym: 1}
		}
	}
	wantToks := []int{0, 0, 0, 2, 2, 1, 1, 2, 1}
	toks, told := tree.Yield(other), tree.Steps(other)
	for _, l := range [][]int{tree.Yield(other), tree.Steps(other), steps} { // also behind the call
		for i := range l {
			l[i] = 77
		}
	}
	copied := api.Cfg{Tokens: slices.Clone(c.Tokens), Names: slices.Clone(c.Names)}
	c.Alts[0][0][1], c.Alts[0][1], c.Tokens[0], c.Names[0] = 1, nil, "d", "U"
	if got := tree.Text(copied, other); got != want {
		t.Errorf("got %s, want %s", got, want)
	}
	if !slices.Equal(toks, wantToks) || !slices.Equal(told, []int{0, 0, 0, 1, 0, 1, 0}) || !slices.Equal(tree.Yield(other), wantToks) {
		t.Errorf("got %v, %v", toks, told)
	}
}
