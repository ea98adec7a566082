package parse_test

import (
	"fmt"
	"slices"
	"strconv"
	"testing"

	"quincunx/api"
)

// behind are so many tokens 0, and others behind them.
func behind(n int, others ...int) []int { return append(make([]int, n), others...) }

// size is how many nodes there are. No call within a call: a tree is as deep as its nodes are many.
func size(n api.Tree) int {
	all := []api.Tree{n}
	for i := 0; i < len(all); i++ {
		all = append(all, all[i].Kids...)
	}
	return len(all)
}

// Grammars by which one comes to any number of nodes; the tokens are a to e, 0 to 4.
const (
	odd    = "S = a S | b c ;"                                 // of n a, b, c: 2n + 3
	even   = "T = S ; S = a S | b c ;"                         // one more
	nested = "S = a S b | ;"                                   // of n a, n b: 3n + 1
	empty  = "S = a S | A B C ; A = b | ; B = c | ; C = d | ;" // of n a: 2n + 4
)

// P11.1: as many nodes as MaxNodes are not too many.
func TestUpToMaxNodes(t *testing.T) {
	for _, x := range []struct {
		s     string
		toks  []int
		nodes int
	}{
		{odd, behind(9998, 1, 2), 19999},
		{even, behind(9998, 1, 2), 20000},
		{empty, behind(9998), 20000},
		{nested, append(make([]int, 6666), slices.Repeat([]int{1}, 6666)...), 19999},
	} {
		n, at, e := read(t, x.s, "a b c d e").parse(x.toks)
		if got := size(n); e != api.OK || at != 0 || got != x.nodes {
			t.Errorf("%q: got %d nodes, %d at %d, want %d", x.s, got, e, at, x.nodes)
		}
	}
}

// P11.1: one node more is told at its place, as soon as it is put, ahead of all that might be refused there; P11.3: whatever stands behind that.
func TestTooManyNodes(t *testing.T) {
	const b, c, d = 1, 2, 3
	for _, x := range []struct {
		name string
		s    string
		toks []int
		at   int
		e    api.Errno
	}{
		{"the last one", odd, behind(9999, b, c), 10000, api.ErrLong},
		{"a token, where another one stands", odd, behind(9999, b, d), 10000, api.ErrLong},
		{"a token, at the end", odd, behind(9999, b), 10000, api.ErrLong},
		{"the last but one", even, behind(9999, b, c), 9999, api.ErrLong},
		{"a rule", odd, behind(10000, b, c), 10000, api.ErrLong},
		{"a rule, and no alternative", odd, behind(10000, d), 10000, api.ErrLong},
		{"a rule, and no alternative at the end", odd, behind(10000), 10000, api.ErrLong},
		{"far more", odd, behind(30000, b, c), 10000, api.ErrLong},
		{"far more, and what may not be behind them", odd, behind(30000, d, b), 10000, api.ErrLong},
		{"an empty one", empty, behind(9999, d), 9999, api.ErrLong},
		{"an empty one, at the end", empty, behind(9999), 9999, api.ErrLong},
		{"in many others", nested, append(make([]int, 6667), slices.Repeat([]int{b}, 6667)...), 13332, api.ErrLong},
		// refused by the last one that is not too many, or ahead of it
		{"another token", even, behind(9998, b, d), 9999, api.ErrParse},
		{"no token", even, behind(9998, b), 9999, api.ErrParse},
		{"no alternative", even, behind(9999, d), 9999, api.ErrParse},
		{"no alternative at the end", even, behind(9999), 9999, api.ErrParse},
		{"no alternative, with room for one more", odd, behind(9999, d), 9999, api.ErrParse},
		{"no alternative at the end, with room for one more", odd, behind(9999), 9999, api.ErrParse},
		{"at the first of far too many", odd, append([]int{d}, make([]int, 30000)...), 0, api.ErrParse},
		// left, but no node
		{"one is left behind all", even, behind(9998, b, c, d), 10000, api.ErrParse},
		{"many are left behind all", even, append(behind(9998, b, c), make([]int, 30000)...), 10000, api.ErrParse},
	} {
		t.Run(x.name, func(t *testing.T) {
			l := read(t, x.s, "a b c d e")
			l.refused(t, x.toks, x.at, x.e)
			if x.at == len(x.toks) {
				return
			}
			for _, tail := range [][]int{nil, {0}, {b, c}, {c, 0, b}} {
				l.refused(t, slices.Concat(x.toks[:x.at+1], tail), x.at, x.e)
			}
		})
	}
}

// P11.2: where there are too many nodes, nothing is refused; but at the end there must be a sentence.
func TestWantedOfManyNodes(t *testing.T) {
	const b, c, d = 1, 2, 3
	for _, x := range []struct {
		name string
		s    string
		toks []int
		want string
	}{
		{"room enough", odd, behind(9998), "[0 1]"},
		{"too many behind each", odd, behind(9999), "[0 1]"},
		{"too many behind the last", even, behind(9998, b), "[2]"},
		{"a sentence of all nodes", even, behind(9998, b, c), "[5]"},
		{"too many at the place", odd, behind(10000), "[0 1 2 3 4]"},
		{"too many at the place, a token", odd, behind(9999, b), "[0 1 2 3 4]"},
		{"too many ahead of the end", odd, behind(10001), "[0 1 2 3 4]"},
		{"too many, and then what may not be", odd, behind(10001, d, d), "[0 1 2 3 4]"},
		{"what may not be ahead of too many", odd, append([]int{d}, make([]int, 10001)...), "[]"},
		{"a sentence with room for no other one", empty, behind(9998), "[0 1 2 3 5]"},
		{"too many at the end", empty, behind(9999), "[0 1 2 3]"},
		{"a token that is left", even, behind(9998, b, c, d), "[]"},
	} {
		if got := fmt.Sprint(read(t, x.s, "a b c d e").wanted(x.toks)); got != x.want {
			t.Errorf("%s: got %s, want %s", x.name, got, x.want)
		}
	}
}

// P11.1, P11.2: the greatest grammar there may be.
func TestGreatestGrammar(t *testing.T) {
	var c api.Cfg
	for k := range 60 {
		c.Tokens, c.Names = append(c.Tokens, "t"+strconv.Itoa(k)), append(c.Names, "R"+strconv.Itoa(k))
		alts := [][]int{slices.Repeat([]int{k}, 30)}
		for a := 1; a < 30; a++ { // begins with the token k + a, around, and ends with that rule
			next := (k + a) % 60
			alts = append(alts, append(slices.Repeat([]int{next}, 29), -1-next))
		}
		c.Alts = append(c.Alts, alts)
	}
	x := built(t, c)
	const long = 600
	rules := []int{0}
	var toks []int
	for i := range long {
		rules = append(rules, (rules[i]+i%29+1)%60)
		toks = append(toks, slices.Repeat([]int{rules[i+1]}, 29)...)
	}
	if got := x.wanted(toks); len(got) != 30 || !slices.IsSorted(got) || !slices.Contains(got, (rules[long]+29)%60) {
		t.Errorf("got %v", got)
	}
	toks = append(toks, slices.Repeat([]int{rules[long]}, 30)...)
	var n api.Tree
	for i := long; i >= 0; i-- { // the innermost first
		outer := api.Tree{Sym: -1 - rules[i]}
		for at, tok := range toks[29*i : min(29*i+29, len(toks))] {
			outer.Kids = append(outer.Kids, api.Tree{Sym: tok, At: 29*i + at})
		}
		if i < long {
			outer.Alt, outer.Kids = i%29+1, append(outer.Kids, n)
		} else {
			outer.Kids = append(outer.Kids, api.Tree{Sym: rules[i], At: len(toks) - 1})
		}
		n = outer
	}
	got, at, e := x.parse(toks)
	if e != api.OK || at != 0 || size(got) != 30*long+31 || x.told(got) != x.told(n) {
		t.Errorf("got %d at %d, %d nodes", e, at, size(got))
	}
	if got := x.wanted(toks); !slices.Equal(got, []int{60}) {
		t.Errorf("got %v", got)
	}
}
