package tree_test

import (
	"math"
	"slices"
	"testing"

	"quincunx/api"
	"quincunx/tree"
)

// refused checks that steps are refused, with how many were taken, and with no node.
func refused(t testing.TB, name string, c api.Cfg, steps []int, taken int, e api.Errno) {
	t.Helper()
	n, at, got := tree.Grow(c, steps)
	if got != e || at != taken || !same(n, api.Tree{}) {
		t.Errorf("%s, %v..: got %d behind %d, %d nodes, want %d behind %d", name, steps[:min(len(steps), 20)], got, at, tree.Size(n), e, taken)
	}
}

// P13.2: steps that are no derivation's, and how many of them are taken.
func TestStepsRefused(t *testing.T) {
	const far = 1 << 32
	for _, x := range []struct {
		s, tokens string
		steps     []int
		taken     int
	}{
		// none is left
		{nest, "a b", nil, 0},
		{nest, "a b", []int{0}, 1},
		{nest, "a b", []int{0, 0}, 2},
		{"S = S S | ;", "a", []int{0, 1}, 2},
		{"S = S S | ;", "a", []int{0, 0, 1, 1}, 4},
		{"S = A a A ; A = b | ;", "a b", []int{0}, 1},
		{"S = A a A ; A = b | ;", "a b", []int{0, 1}, 2},
		{sums, "p m l r n", tree.Steps(sum())[:10], 10},
		// no alternative of the rule that comes next
		{nest, "a b", []int{2}, 0},
		{nest, "a b", []int{-1}, 0},
		{nest, "a b", []int{far}, 0},
		{nest, "a b", []int{math.MaxInt, 1}, 0},
		{nest, "a b", []int{math.MinInt, 1}, 0},
		{nest, "a b", []int{0, 2}, 1},
		{nest, "a b", []int{0, 0, 2, 2, 2}, 2},
		{nest, "a b", []int{0, 0, -1, 1}, 2},
		{"S = A a B ; A = b | c | ; B = A ;", "a b c", []int{0, 3, 0, 0}, 1}, // of A, not of S, nor of B
		{"S = A a B ; A = b | c | ; B = A ;", "a b c", []int{0, 2, 1, 0}, 2},
		{"S = A a B ; A = b | c | ; B = A ;", "a b c", []int{0, 2, 0, 3}, 3},
		{"S = A a B ; A = b | c | ; B = A ;", "a b c", []int{1, 2, 0, 2}, 0},
		// one is left
		{"S = ;", "", []int{0, 0}, 1},
		{"S = a b | ;", "a b", []int{0, 1}, 1},
		{nest, "a b", []int{1, 1}, 1},
		{nest, "a b", []int{1, 2}, 1}, // and would be none's
		{nest, "a b", []int{0, 0, 1, 0, 1}, 3},
		{nest, "a b", []int{0, 0, 1, -1}, 3},
		{"S = S S | ;", "a", []int{0, 1, 1, 1, 1, 1}, 3},
		{sums, "p m l r n", append(tree.Steps(sum()), 0), 11},
	} {
		refused(t, x.s, read(t, x.s, x.tokens), x.steps, x.taken, api.ErrParse)
	}
}

// P13.2: of a derivation's steps the ones ahead are too few, and with one more they are too many.
func TestStepsOfPart(t *testing.T) {
	for _, x := range []struct {
		s, tokens string
		n         api.Tree
	}{
		{nest, "a b", nested()},
		{sums, "p m l r n", sum()},
		{"S = ;", "", rule(0, 0)},
	} {
		c, steps := read(t, x.s, x.tokens), tree.Steps(x.n)
		for i := range steps {
			refused(t, x.s, c, steps[:i], i, api.ErrParse)
			for _, alt := range []int{-1, 3, 60, math.MaxInt, math.MinInt} {
				other := slices.Clone(steps)
				other[i] = alt
				refused(t, x.s, c, other, i, api.ErrParse)
			}
		}
		for _, alt := range []int{0, 1, 2, -1} {
			refused(t, x.s, c, append(slices.Clone(steps), alt), len(steps), api.ErrParse)
			refused(t, x.s, c, append(slices.Clone(steps), alt, 0, 0), len(steps), api.ErrParse)
		}
	}
}

// P13.2: numbers that are none's: a rule's has no alternatives, a token's is taken as it is.
func TestGrowByOddGrammars(t *testing.T) {
	names := []string{"S", "T"}
	for _, x := range []struct {
		name  string
		c     api.Cfg
		steps []int
		taken int // where e is api.ErrParse
		e     api.Errno
		want  api.Tree
	}{
		{"nothing, and no step", api.Cfg{}, nil, 0, api.ErrParse, api.Tree{}},
		{"nothing", api.Cfg{}, []int{0}, 0, api.ErrParse, api.Tree{}},
		{"a name alone", api.Cfg{Names: names}, []int{0}, 0, api.ErrParse, api.Tree{}},
		{"no alternative", api.Cfg{Names: names, Alts: [][][]int{nil, {{}}}}, []int{0}, 0, api.ErrParse, api.Tree{}},
		{"alternatives alone", api.Cfg{Alts: [][][]int{{{}}}}, []int{0}, 0, api.ErrParse, api.Tree{}},
		{"a rule without a name", api.Cfg{Names: names[:1], Alts: [][][]int{{{-2}}, {{}}}}, []int{0, 0}, 1, api.ErrParse, api.Tree{}},
		{"a rule without alternatives", api.Cfg{Names: names, Alts: [][][]int{{{-2}}}}, []int{0, 0}, 1, api.ErrParse, api.Tree{}},
		{"a rule with no alternative", api.Cfg{Names: names, Alts: [][][]int{{{-2}}, {}}}, []int{0, 0}, 1, api.ErrParse, api.Tree{}},
		{"no rule", api.Cfg{Names: names[:1], Alts: [][][]int{{{5, -2, 6}}}}, []int{0, 0}, 1, api.ErrParse, api.Tree{}},
		{"no rule, and no step", api.Cfg{Names: names[:1], Alts: [][][]int{{{5, -2, 6}}}}, []int{0}, 1, api.ErrParse, api.Tree{}},
		{"far from a rule", api.Cfg{Names: names[:1], Alts: [][][]int{{{math.MinInt}}}}, []int{0, 0}, 1, api.ErrParse, api.Tree{}},
		{"no rule, in another alternative", api.Cfg{Names: names[:1], Alts: [][][]int{{{-2}, {-1, -1}, {}}}}, []int{1, 2, 2}, 0, api.OK, rule(0, 1, rule(0, 2), rule(0, 2))},
		{"no token", api.Cfg{Names: names[:1], Alts: [][][]int{{{5, -1, 5, 3}, {}}}}, []int{0, 1}, 0, api.OK, rule(0, 0, tok(5, 0), rule(0, 1), tok(5, 1), tok(3, 2))},
		{"far from a token", api.Cfg{Tokens: names, Names: names[:1], Alts: [][][]int{{{math.MaxInt, 0, 2}}}}, []int{0}, 0, api.OK, rule(0, 0, tok(math.MaxInt, 0), tok(0, 1), tok(2, 2))},
		{"no token, and then no step", api.Cfg{Names: names[:1], Alts: [][][]int{{{5, -1}, {}}}}, []int{0}, 1, api.ErrParse, api.Tree{}},
		{"barren", api.Cfg{Names: names[:1], Alts: [][][]int{{{-1}}}}, []int{0, 0, 0}, 3, api.ErrParse, api.Tree{}},
		{"a name that is none", api.Cfg{Names: []string{""}, Alts: [][][]int{{{}}}}, []int{0}, 0, api.OK, rule(0, 0)},
	} {
		n, at, e := tree.Grow(x.c, x.steps)
		if e != x.e || at != x.taken || !same(n, x.want) {
			t.Errorf("%s: got %v, %d behind %d, want %v, %d behind %d", x.name, n, e, at, x.want, x.e, x.taken)
		}
	}
}

// zeros are so many steps by the alternative 0, and then others.
func zeros(n int, behind ...int) []int { return append(make([]int, n), behind...) }

// P13.2: as many nodes as there may be, and one more; each is counted as soon as it comes next, and no sooner.
func TestGrowManyNodes(t *testing.T) {
	const (
		odd   = "S = a S | ; "                  // of n tokens 2n + 1 nodes
		even  = "S = a S | b T | ; T = c ; "    // and one more
		lists = "S = S S | | a ; "              // as many nodes as steps
		after = "S = S a a a | T ; T = b b | ;" // three nodes behind each
		ahead = "S = A S | ; A = a a a | b ;"
	)
	fours := slices.Repeat([]int{0, 0}, 3999) // 5 nodes each by ahead
	for _, x := range []struct {
		name, s string
		steps   []int
		size    int // 0: too many
		taken   int
	}{
		{"one less", odd, zeros(9999, 1), 19999, 0},
		{"just as many", even, zeros(9998, 1, 0), 20000, 0},
		{"one more", odd, zeros(10000, 1), 0, 10000},
		{"many more", odd, zeros(30000, 1), 0, 10000},
		{"for ever", odd, zeros(30000), 0, 10000},
		{"one more, a token", "S = a S | b b T | ; T = c ; ", zeros(9998, 1, 0), 0, 10000},
		{"as many as steps", lists, zeros(9999, slices.Repeat([]int{1}, 10000)...), 19999, 0},
		{"as many as steps, and a token", lists, zeros(9999, append(slices.Repeat([]int{1}, 9999), 2)...), 20000, 0},
		{"as many as steps, and two tokens", lists, zeros(9999, append(slices.Repeat([]int{1}, 9998), 2, 2)...), 0, 19999},
		{"as many as steps, and many tokens", lists, zeros(9999, slices.Repeat([]int{2}, 10000)...), 0, 15000},
		{"as deep as there may be", lists, zeros(19999, 1), 0, 20000},
		{"deeper", lists, zeros(30000), 0, 20000},
		{"behind", after, zeros(4999, 1, 1), 19998, 0},
		{"behind, one more", after, zeros(4999, 1, 0), 20000, 0},
		{"behind, three more", after, zeros(5000, 1, 1), 0, 5002},
		{"behind, far too many", after, zeros(19000, 1, 1), 0, 19002},
		{"ahead", ahead, append(slices.Clone(fours), 1), 19996, 0},
		{"ahead, and a few", ahead, append(slices.Clone(fours), 0, 1, 1), 19999, 0},
		{"ahead, and two more", ahead, append(slices.Clone(fours), 0, 0, 1), 0, 8000},
	} {
		c := read(t, x.s, "a b c")
		if x.size == 0 {
			refused(t, x.name, c, x.steps, x.taken, api.ErrLong)
			refused(t, x.name, c, x.steps[:x.taken], x.taken, api.ErrLong)
			for _, alt := range []int{-1, 0, 1, 60, math.MaxInt} {
				refused(t, x.name, c, append(slices.Clone(x.steps[:x.taken]), alt, alt), x.taken, api.ErrLong)
			}
			continue
		}
		n, at, e := tree.Grow(c, x.steps)
		if e != api.OK || at != 0 || tree.Size(n) != x.size || !slices.Equal(tree.Steps(n), x.steps) || !tree.Check(c, n, tree.Yield(n)) {
			t.Errorf("%s: got %d behind %d, %d nodes, want %d", x.name, e, at, tree.Size(n), x.size)
		}
		for _, alt := range []int{-1, 0, 1} { // left behind all, but no node
			refused(t, x.name, c, append(slices.Clone(x.steps), alt), len(x.steps), api.ErrParse)
		}
	}
}

// P13.2: what is refused ahead of too many nodes is so, also by the last one that there may be.
func TestRefusedAheadOfManyNodes(t *testing.T) {
	const (
		odd  = "S = a S | ;"
		even = "S = a S | T ; T = ;"
	)
	for _, x := range []struct {
		name, s string
		steps   []int
		taken   int
	}{
		{"none is left for the last but one", odd, zeros(9999), 9999},
		{"no alternative for the last but one", odd, zeros(9999, 2), 9999},
		{"none is left for the last", even, zeros(9999, 1), 10000},
		{"no alternative for the last", even, zeros(9999, 1, 1), 10000},
		{"no alternative, far ahead", odd, append([]int{0, -1}, zeros(30000)...), 1},
		{"many are left", odd, append([]int{0, 1}, zeros(30000)...), 2},
		{"none is left for the 20000th", "S = S S | ;", zeros(19999), 19999},
	} {
		refused(t, x.name, read(t, x.s, "a"), x.steps, x.taken, api.ErrParse)
	}
}
