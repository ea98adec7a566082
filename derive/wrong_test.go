package derive_test

import (
	"math"
	"math/rand"
	"slices"
	"strconv"
	"testing"

	"quincunx/api"
	"quincunx/check"
	"quincunx/derive"
)

// askAll asks all that may be asked of a grammar, whatever it is.
func askAll(c api.Cfg, toks ...[]int) {
	for _, r := range []int{math.MinInt, -1, 0, 1, 2, len(c.Alts) - 1, len(c.Alts), math.MaxInt} {
		for _, long := range []int{math.MinInt, -1, 0, 1, 3, 8, 9, math.MaxInt} {
			derive.Sentences(c, r, long)
		}
	}
	for _, l := range append(toks, nil, []int{0}, []int{0, 0, 0}, []int{0, 1}, []int{-1}, []int{math.MinInt, math.MaxInt}) {
		for _, seq := range [][]int{nil, {0}, {-1}, {-1, -1, 0}, {-2, -1}, {-3, 0}, {1}, {math.MinInt, -1}, {-1, math.MaxInt}} {
			derive.Derives(c, seq, l)
		}
	}
}

// one is a grammar of a rule and a token that has these alternatives.
func one(alts ...[]int) api.Cfg {
	return api.Cfg{Tokens: []string{"a"}, Names: []string{"S"}, Alts: [][][]int{alts}}
}

// R1: of what may not be all calls end.
func TestOfOthers(t *testing.T) {
	for _, c := range []api.Cfg{
		{},
		{Tokens: []string{"a"}},
		{Names: []string{"S"}},
		{Alts: [][][]int{{{}}}},
		{Alts: [][][]int{{{0, -1}}}},
		{Alts: [][][]int{{{}, {}}}},
		{Alts: [][][]int{nil, nil}},
		{Names: []string{"S", "T"}, Alts: [][][]int{{{-2}, {}}}},
		{Names: []string{"S"}, Alts: [][][]int{{{-2}, {-2}}, {{}}}},
		{Names: []string{"S"}, Alts: [][][]int{nil}},
		{Names: []string{"S", "T"}, Alts: [][][]int{{{-2, -1}}, nil}},
		{Names: []string{"", "1"}, Tokens: []string{"", ""}, Alts: [][][]int{{{-2, 1}}, {{0}, {}}}},
		one(),
		one([]int{-1}), // barren
		one([]int{-1}, []int{-1}),
		one([]int{-1, -1}, []int{0, -1}),
		one([]int{0}, []int{1}), // the end's number
		one([]int{0}, []int{-1, 1}),
		one([]int{}, []int{1, -1}),
		one([]int{0}, []int{-2}),
		one([]int{math.MaxInt}, []int{}),
		one([]int{math.MinInt}, []int{}),
		one([]int{math.MinInt + 1, -1}, []int{-1, math.MaxInt - 1}),
		{Tokens: []string{"a"}, Names: []string{"S", "T"}, Alts: [][][]int{{{0}}, {{}}}},             // idle
		{Tokens: []string{"a"}, Names: []string{"S", "T"}, Alts: [][][]int{{{0}}, {{-1, -2}, {-2}}}}, // idle, and barren
	} {
		if check.Valid(c) == api.OK {
			t.Errorf("%v may be", c)
		}
		askAll(c)
	}
}

// R1: of a grammar that may be, and lists that are not of its numbers, all calls end.
func TestOfOtherLists(t *testing.T) {
	c := read(t, "S = A a | b S ; A = | a A ;", "a b")
	for _, n := range []int{2, 3, -3, -4, 60, -60, 1 << 32, math.MaxInt, math.MinInt, math.MinInt + 1} {
		for _, seq := range [][]int{{n}, {0, n}, {-2, n}, {n, 0}, {n, -1}, {-2, n, n}} {
			for _, toks := range [][]int{nil, {0}, {n}, {0, n}, {1, 0, 0}} {
				derive.Derives(c, seq, toks)
			}
		}
	}
}

// R1: random grammars, most of which may not be.
func TestOfRandomOthers(t *testing.T) {
	r := rand.New(rand.NewSource(7))
	for range 1500 {
		c := api.Cfg{Tokens: make([]string, r.Intn(3)), Names: make([]string, r.Intn(4))}
		for range len(c.Names) + r.Intn(6)/5 {
			var l [][]int
			for range r.Intn(4) {
				var alt []int
				for range r.Intn(4) {
					alt = append(alt, r.Intn(8)-4)
				}
				l = append(l, alt)
			}
			c.Alts = append(c.Alts, l)
		}
		askAll(c, []int{1, 0, 0, 1, 1, 0})
	}
}

// great is a grammar of so many rules and tokens; each rule has what tells its alternatives.
func great(rules, tokens int, alts func(r int) [][]int) api.Cfg {
	var c api.Cfg
	for i := range tokens {
		c.Tokens = append(c.Tokens, "t"+strconv.Itoa(i))
	}
	for r := range rules {
		c.Names, c.Alts = append(c.Names, "R"+strconv.Itoa(r)), append(c.Alts, alts(r))
	}
	return c
}

// R1, R6: of grammars and lists that are far too great all calls end.
func TestOfGreatOthers(t *testing.T) {
	const n = 1 << 17
	askAll(great(n, n, func(r int) [][]int { return [][]int{{r}, {-1 - (r+1)%n}} }))
	askAll(great(n, 1, func(r int) [][]int { return [][]int{{-1 - (r+1)%n}, {0}} }))
	askAll(great(1, n, func(int) [][]int { return [][]int{{0}} }), []int{n - 1})
	askAll(great(1, 1, func(int) [][]int { return slices.Repeat([][]int{{-1, 0}, {}}, n) }))
	askAll(great(1, 1, func(int) [][]int { return [][]int{slices.Repeat([]int{-1}, n), {}} }))
	c := read(t, "S = a S b | T ; T = | T c ;", "a b c")
	for _, seq := range [][]int{slices.Repeat([]int{-2}, n), slices.Repeat([]int{0}, n), append(make([]int, n), -1, -1), slices.Repeat([]int{-1}, n)} {
		for _, toks := range [][]int{nil, {0, 1}, {2, 2, 2}, make([]int, n), append(make([]int, n), 1, 1, 0)} {
			want := len(toks) == 0 && seq[0] < 0 || len(toks) > 0 && len(toks) < 4 && seq[0] == -1 || len(toks) == 3 && seq[0] == -2 || len(toks) == n && seq[0] == 0
			if got := derive.Derives(c, seq, toks); got != want {
				t.Errorf("%v.. (%d), %v.. (%d): got %v", seq[0], len(seq), toks[:min(3, len(toks))], len(toks), got)
			}
		}
	}
}

// dense is as great a grammar as there may be: all 60 rules may be empty, and each goes on in others.
func dense(tokens int) api.Cfg {
	r := rand.New(rand.NewSource(8))
	return great(60, tokens, func(k int) [][]int {
		l := [][]int{{}, {k % tokens}}
		for len(l) < 30 {
			var alt []int
			for range 30 {
				alt = append(alt, -1-(k+1+r.Intn(59))%60)
			}
			l = append(l, alt)
		}
		return l
	})
}

// P12.1, P12.2: the greatest grammars that there may be.
func TestOfGreatestGrammars(t *testing.T) {
	for _, x := range []struct{ tokens, most, size int }{
		{1, 8, 9},
		{3, 3, 40},
		{20, 1, 21},
		{60, 1, 61},
	} {
		c := dense(x.tokens)
		if e := check.Valid(c); e != api.OK {
			t.Fatalf("%d: %d", x.tokens, e)
		}
		if l, e := derive.Sentences(c, 59, x.most); e != api.OK || len(l) != x.size {
			t.Errorf("%d tokens: got %d, %d", x.tokens, len(l), e)
		}
		if l, e := derive.Sentences(c, 31, x.most+1); x.tokens >= 20 && (e != api.ErrLong || len(l) > 0) {
			t.Errorf("%d tokens: got %d, %d", x.tokens, len(l), e)
		}
		last := x.tokens - 1
		toks := []int{last, 0, 0, last / 2, last, 0}
		if !derive.Derives(c, []int{-60}, toks) || derive.Derives(c, []int{-2, last}, toks) != (last == 0) {
			t.Errorf("%d tokens: %v: another answer", x.tokens, toks)
		}
	}
}

// P12.1, P12.2: what is found goes through chains of 60 rules, in either order.
func TestOfChains(t *testing.T) {
	for _, step := range []int{1, -1} {
		at := func(k int) int { return (60 + k*step) % 60 } // where the k-th rule of the chain stands
		c := great(60, 1, func(int) [][]int { return nil })
		for k := range 60 {
			c.Alts[at(k)] = [][]int{{-1 - at(k+1), -1 - at(k+1)}, {-1 - at(k+1)}}
		}
		c.Alts[at(59)] = [][]int{{0}, {-1 - at(0), 0, 0}}
		if e := check.Valid(c); e != api.OK {
			t.Fatalf("%d", e)
		}
		for k := range 60 {
			if l, e := derive.Sentences(c, k, 8); e != api.OK || len(l) == 0 || len(l[0]) != 1 {
				t.Errorf("%d: got %v, %d", k, l, e)
			}
		}
		if l, e := derive.Sentences(c, at(0), 8); e != api.OK || len(l) != 8 {
			t.Errorf("got %v, %d", l, e)
		}
		if l, e := derive.Sentences(c, at(59), 8); e != api.OK || len(l) != 7 { // not 2
			t.Errorf("got %v, %d", l, e)
		}
		for n := range 40 {
			toks := make([]int, n)
			if first, last := derive.Derives(c, []int{-1}, toks), derive.Derives(c, []int{-1 - at(59)}, toks); first != (n > 0) || last != (n > 0 && n != 2) {
				t.Errorf("%d: got %v, %v", n, first, last)
			}
		}
	}
}
