package tree_test

import (
	"math"
	"math/rand"
	"slices"
	"strings"
	"testing"

	"quincunx/api"
	"quincunx/check"
	"quincunx/derive"
	"quincunx/parse"
	"quincunx/table"
	"quincunx/tree"
)

// anyCfg is a grammar by numbers, of up to 4 rules and 3 tokens, each rule with up to 3 alternatives of up to 3 numbers; there may be one.
func anyCfg(r *rand.Rand) api.Cfg {
	for {
		c := api.Cfg{Tokens: []string{"a", "b", "c"}[:r.Intn(4)], Names: []string{"S", "T", "U", "V"}[:1+r.Intn(4)]}
		for range c.Names {
			alts := make([][]int, 1+r.Intn(3))
			for i := range alts {
				for range r.Intn(4) {
					alts[i] = append(alts[i], r.Intn(len(c.Names)+len(c.Tokens))-len(c.Names))
				}
			}
			c.Alts = append(c.Alts, alts)
		}
		if check.Valid(c) == api.OK {
			return c
		}
	}
}

// grower makes derivations at random.
type grower struct {
	r    *rand.Rand
	c    api.Cfg
	toks int
	room int // how many nodes more there may be
}

// grow makes a node, and all in it; false if there is no room.
func (g *grower) grow(n int) (api.Tree, bool) {
	g.room--
	if g.room < 0 {
		return api.Tree{}, false
	}
	if n >= 0 {
		g.toks++
		return tok(n, g.toks-1), true
	}
	alts := g.c.Alts[-1-n]
	t := rule(-1-n, g.r.Intn(len(alts)))
	for _, in := range alts[t.Alt] {
		kid, is := g.grow(in)
		if !is {
			return api.Tree{}, false
		}
		t.Kids = append(t.Kids, kid)
	}
	return t, true
}

// anyDerivation is one of a grammar, of up to 60 nodes; false if none was found.
func anyDerivation(r *rand.Rand, c api.Cfg) (api.Tree, bool) {
	for range 20 {
		g := grower{r: r, c: c, room: 60}
		if t, is := g.grow(-1); is {
			return t, true
		}
	}
	return api.Tree{}, false
}

// P13.1, P13.4: many derivations: Grow of their steps is each; their tokens are a sentence.
func TestGrownAgain(t *testing.T) {
	r := rand.New(rand.NewSource(1))
	found, long := 0, 0
	for range 6000 {
		c := anyCfg(r)
		n, is := anyDerivation(r, c)
		if !is {
			continue
		}
		found++
		toks, steps := tree.Yield(n), tree.Steps(n)
		if len(steps) > 10 {
			long++
		}
		if !tree.Check(c, n, toks) || !derive.Derives(c, []int{-1}, toks) {
			t.Fatalf("%v: %v: no derivation of %v", c, n, toks)
		}
		got, at, e := tree.Grow(c, steps)
		if e != api.OK || at != 0 || !same(got, n) {
			t.Fatalf("%v: %v: got %v, %d at %d, want %v", c, steps, got, e, at, n)
		}
		if got := tree.Size(n); got != len(toks)+len(steps) {
			t.Fatalf("%v: %v: %d nodes", c, n, got)
		}
		if got := tree.Text(c, n); got != textOf(c, n) {
			t.Fatalf("%v: %v: got %s", c, n, got)
		}
	}
	if found < 3000 || long < 300 {
		t.Errorf("only %d and %d", found, long)
	}
}

// textOf writes a tree by the chapter's words.
func textOf(c api.Cfg, n api.Tree) string {
	name := func(l []string, i int) string {
		if i < 0 || i >= len(l) {
			return "?"
		}
		return l[i]
	}
	if n.Sym >= 0 {
		return name(c.Tokens, n.Sym)
	}
	var in []string
	for _, kid := range n.Kids {
		in = append(in, textOf(c, kid))
	}
	return name(c.Names, -1-n.Sym) + "(" + strings.Join(in, " ") + ")"
}

// isRight tells by the chapter's words whether a node, and all in it, are right.
func isRight(c api.Cfg, n api.Tree) bool {
	if n.Sym >= 0 {
		return n.Sym < len(c.Tokens) && n.Alt == 0 && len(n.Kids) == 0
	}
	r := -1 - n.Sym
	if r >= len(c.Names) || r >= len(c.Alts) || n.Alt < 0 || n.Alt >= len(c.Alts[r]) || n.At != 0 {
		return false
	}
	alt := c.Alts[r][n.Alt]
	if len(alt) != len(n.Kids) {
		return false
	}
	for i, kid := range n.Kids {
		if kid.Sym != alt[i] || !isRight(c, kid) {
			return false
		}
	}
	return true
}

// told are by the chapter's words a tree's tokens, with their places, its steps, and how many nodes it has.
type told struct {
	toks, at, steps []int
	size            int
}

func (x *told) tell(n api.Tree, counted bool) {
	x.size++
	if !counted && n.Sym >= 0 {
		x.toks, x.at = append(x.toks, n.Sym), append(x.at, n.At)
	} else if !counted {
		x.steps = append(x.steps, n.Alt)
	}
	for _, kid := range n.Kids {
		x.tell(kid, counted || n.Sym >= 0)
	}
}

// spoil changes something in a copy of a tree, or nothing.
func spoil(r *rand.Rand, n api.Tree) api.Tree {
	n.Kids = slices.Clone(n.Kids)
	if len(n.Kids) > 0 && r.Intn(4) > 0 {
		i := r.Intn(len(n.Kids))
		n.Kids[i] = spoil(r, n.Kids[i])
		return n
	}
	near := func(x int) int {
		if r.Intn(20) == 0 {
			return []int{math.MinInt, math.MaxInt, 1 << 32, -60, 60}[r.Intn(5)]
		}
		return x + r.Intn(5) - 2
	}
	switch r.Intn(7) {
	case 0:
		n.Sym = near(n.Sym)
	case 1:
		n.Alt = near(n.Alt)
	case 2:
		n.At = near(n.At)
	case 3:
		n.Kids = append(n.Kids, api.Tree{Sym: near(0)})
	case 4:
		if len(n.Kids) > 0 {
			i := r.Intn(len(n.Kids))
			n.Kids = slices.Delete(n.Kids, i, i+1)
		}
	case 5:
		if len(n.Kids) > 1 {
			i := 1 + r.Intn(len(n.Kids)-1)
			n.Kids[i-1], n.Kids[i] = n.Kids[i], n.Kids[i-1]
		}
	}
	return n
}

// shorter takes at times a few of the last names, tokens, or lists of alternatives away.
func shorter(r *rand.Rand, c api.Cfg) api.Cfg {
	keep := func(n int) int {
		if r.Intn(10) > 0 {
			return n
		}
		return r.Intn(n + 1)
	}
	return api.Cfg{Tokens: c.Tokens[:keep(len(c.Tokens))], Names: c.Names[:keep(len(c.Names))], Alts: c.Alts[:keep(len(c.Alts))]}
}

// P13.1, P13.2, P13.3: many trees near to derivations, against the chapter's words.
func TestSpoiltTrees(t *testing.T) {
	r := rand.New(rand.NewSource(2))
	right, wrong := 0, 0
	for range 30000 {
		c := anyCfg(r)
		n, is := anyDerivation(r, c)
		if !is {
			continue
		}
		for range r.Intn(3) {
			n = spoil(r, n)
		}
		c = shorter(r, c)
		var x told
		x.tell(n, false)
		if got := tree.Yield(n); !slices.Equal(got, x.toks) {
			t.Fatalf("%v: the tokens %v, want %v", n, got, x.toks)
		}
		if got := tree.Steps(n); !slices.Equal(got, x.steps) {
			t.Fatalf("%v: the steps %v, want %v", n, got, x.steps)
		}
		if got := tree.Size(n); got != x.size {
			t.Fatalf("%v: %d nodes, want %d", n, got, x.size)
		}
		if got, want := tree.Text(c, n), textOf(c, n); got != want {
			t.Fatalf("%v: %v: got %q, want %q", c, n, got, want)
		}
		places := make([]int, len(x.toks))
		for i := range places {
			places[i] = i
		}
		want := n.Sym == -1 && isRight(c, n) && slices.Equal(x.at, places)
		if got := tree.Check(c, n, x.toks); got != want {
			t.Fatalf("%v: %v: got %v", c, n, got)
		}
		other := append(slices.Clone(x.toks), 0)
		if i := r.Intn(len(other)); i < len(x.toks) {
			other = slices.Clone(x.toks)
			other[i] += 1 + r.Intn(2)
		}
		if tree.Check(c, n, other) || len(x.toks) > 0 && tree.Check(c, n, x.toks[1:]) || len(x.toks) > 0 && tree.Check(c, n, x.toks[:len(x.toks)-1]) {
			t.Fatalf("%v: %v: of other tokens", c, n)
		}
		if want {
			right++
		} else {
			wrong++
		}
	}
	if right < 5000 || wrong < 5000 {
		t.Errorf("only %d and %d", right, wrong)
	}
}

// rewrite takes steps from the left in a list of what comes next, the last one first: the tokens, how many steps were taken, and the error.
func rewrite(c api.Cfg, steps []int) (toks []int, taken int, e api.Errno) {
	next := []int{-1}
	for nodes := 1; len(next) > 0; nodes++ {
		if nodes > 20000 {
			return nil, taken, api.ErrLong
		}
		n := next[len(next)-1]
		next = next[:len(next)-1]
		if n >= 0 {
			toks = append(toks, n)
			continue
		}
		r := -1 - n
		if taken == len(steps) || r >= len(c.Names) || r >= len(c.Alts) || steps[taken] < 0 || steps[taken] >= len(c.Alts[r]) {
			return nil, taken, api.ErrParse
		}
		for _, in := range slices.Backward(c.Alts[r][steps[taken]]) {
			next = append(next, in)
		}
		taken++
	}
	if taken < len(steps) {
		return nil, taken, api.ErrParse
	}
	return toks, 0, api.OK
}

// P13.2, P13.4: many lists of steps, against steps taken from the left.
func TestGrowBySteps(t *testing.T) {
	r := rand.New(rand.NewSource(3))
	is, not := 0, 0
	for range 30000 {
		c := anyCfg(r)
		var steps []int
		if n, has := anyDerivation(r, c); has && r.Intn(3) > 0 {
			steps = tree.Steps(n)
		}
		for range r.Intn(3) {
			at := r.Intn(len(steps) + 1)
			steps = slices.Concat(steps[:at], []int{r.Intn(5) - 1}, steps[min(at+r.Intn(2), len(steps)):])
		}
		c = shorter(r, c)
		toks, taken, e := rewrite(c, steps)
		n, at, got := tree.Grow(c, steps)
		if got != e || at != taken {
			t.Fatalf("%v: %v: got %d behind %d, want %d behind %d", c, steps, got, at, e, taken)
		}
		if e != api.OK {
			not++
			if !same(n, api.Tree{}) {
				t.Fatalf("%v: %v: got %v", c, steps, n)
			}
			continue
		}
		is++
		known := !slices.ContainsFunc(toks, func(tok int) bool { return tok >= len(c.Tokens) })
		if !slices.Equal(tree.Steps(n), steps) || !slices.Equal(tree.Yield(n), toks) || tree.Check(c, n, toks) != known {
			t.Fatalf("%v: %v: got %v", c, steps, n)
		}
		c.Tokens = []string{"a", "b", "c"}
		if !tree.Check(c, n, toks) {
			t.Fatalf("%v: %v: got %v", c, steps, n)
		}
	}
	if is < 5000 || not < 5000 {
		t.Errorf("only %d and %d", is, not)
	}
}

// anySteps are at most so many steps by a grammar, most of them by long alternatives.
func anySteps(r *rand.Rand, c api.Cfg, most int) []int {
	var steps []int
	next := []int{-1}
	for len(next) > 0 && len(steps) < most {
		n := next[len(next)-1]
		next = next[:len(next)-1]
		if n >= 0 {
			continue
		}
		alts := c.Alts[-1-n]
		alt := r.Intn(len(alts))
		if other := r.Intn(len(alts)); len(alts[other]) > len(alts[alt]) {
			alt = other
		}
		steps = append(steps, alt)
		for _, in := range slices.Backward(alts[alt]) {
			next = append(next, in)
		}
	}
	return steps
}

// P13.2: great trees of many grammars, against steps taken from the left: behind how many steps there are too many nodes.
func TestGrowGreatTrees(t *testing.T) {
	r := rand.New(rand.NewSource(4))
	for long := 0; long < 100; {
		c := anyCfg(r)
		steps := anySteps(r, c, 20005)
		_, taken, e := rewrite(c, steps)
		if e != api.ErrLong {
			continue
		}
		long++
		refused(t, "all", c, steps, taken, api.ErrLong)
		refused(t, "those that were taken", c, steps[:taken], taken, api.ErrLong)
		refused(t, "one less", c, steps[:taken-1], taken-1, api.ErrParse)
		refused(t, "another one behind", c, append(slices.Clone(steps[:taken]), -1), taken, api.ErrLong)
		refused(t, "another one", c, append(slices.Clone(steps[:taken-1]), -1), taken-1, api.ErrParse)
	}
}

// P13.1, P13.4: what is parsed is a derivation, the one that its steps tell.
func TestParsedTrees(t *testing.T) {
	r := rand.New(rand.NewSource(5))
	found := 0
	for range 20000 {
		c := anyCfg(r)
		l, e := table.Build(c)
		n, is := anyDerivation(r, c)
		if e != api.OK || !is {
			continue
		}
		found++
		toks := tree.Yield(n)
		parsed, _, e := parse.Parse(c, l, toks)
		if e != api.OK || !tree.Check(c, parsed, toks) || !slices.Equal(tree.Steps(parsed), tree.Steps(n)) {
			t.Fatalf("%v: %v: got %v, %d, want %v", c, toks, parsed, e, n)
		}
	}
	if found < 1000 {
		t.Errorf("only %d", found)
	}
}
