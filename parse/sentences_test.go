package parse_test

import (
	"fmt"
	"math/rand"
	"slices"
	"sort"
	"testing"

	"quincunx/api"
	"quincunx/check"
	"quincunx/table"
)

// anyLang is a grammar without clashes, and its table: of up to 4 rules and 3 tokens, each rule with up to 3 alternatives of up to 3 numbers.
func anyLang(r *rand.Rand) lang {
	for {
		c := api.Cfg{Tokens: []string{"a", "b", "c"}[:1+r.Intn(3)], Names: []string{"S", "T", "U", "V"}[:1+r.Intn(4)]}
		for range c.Names {
			alts := make([][]int, 1+r.Intn(3))
			for i := range alts {
				for range r.Intn(4) {
					alts[i] = append(alts[i], r.Intn(len(c.Names)+len(c.Tokens))-len(c.Names))
				}
			}
			c.Alts = append(c.Alts, alts)
		}
		if check.Valid(c) != api.OK {
			continue
		}
		if l, e := table.Build(c); e == api.OK {
			return lang{c, l}
		}
	}
}

// ways goes through all ways in which a sentence of seq stands in toks at a place, without a table: its nodes, and the place behind it.
// No rule may begin with itself; without clashes none does.
func ways(c api.Cfg, seq, toks []int, at int, found func(nodes []api.Tree, at int)) {
	if len(seq) == 0 {
		found(nil, at)
		return
	}
	first := func(n api.Tree, at int) {
		ways(c, seq[1:], toks, at, func(nodes []api.Tree, at int) {
			found(append([]api.Tree{n}, nodes...), at)
		})
	}
	if seq[0] >= 0 {
		if at < len(toks) && toks[at] == seq[0] {
			first(api.Tree{Sym: seq[0], At: at}, at+1)
		}
		return
	}
	for i, alt := range c.Alts[-1-seq[0]] {
		ways(c, alt, toks, at, func(nodes []api.Tree, at int) {
			first(api.Tree{Sym: seq[0], Alt: i, Kids: nodes}, at)
		})
	}
}

// derivations are those of toks.
func derivations(c api.Cfg, toks []int) []api.Tree {
	var l []api.Tree
	ways(c, []int{-1}, toks, 0, func(nodes []api.Tree, at int) {
		if at == len(toks) {
			l = append(l, nodes[0])
		}
	})
	return l
}

// begins tells whether a sentence of seq begins with toks. From each rule comes a sentence.
func begins(c api.Cfg, seq, toks []int) bool {
	if len(toks) == 0 || len(seq) == 0 {
		return len(toks) == 0
	}
	if seq[0] >= 0 {
		return toks[0] == seq[0] && begins(c, seq[1:], toks[1:])
	}
	return slices.ContainsFunc(c.Alts[-1-seq[0]], func(alt []int) bool { return begins(c, slices.Concat(alt, seq[1:]), toks) })
}

// refusedAt is the first place at which no sentence has what toks have; their end, if some sentence begins with all of them.
func refusedAt(c api.Cfg, toks []int) int {
	return sort.Search(len(toks), func(at int) bool { return !begins(c, []int{-1}, toks[:at+1]) })
}

// same checks that toks are parsed, and what is wanted behind them, as derivations alone tell; it tells whether they are a sentence.
func same(t *testing.T, x lang, toks []int) bool {
	t.Helper()
	want := derivations(x.c, toks)
	if len(want) > 1 {
		t.Fatalf("%v: %v: %d derivations", x.c, toks, len(want))
	}
	var wanted []int
	for n := range x.c.Tokens {
		if begins(x.c, []int{-1}, append(slices.Clone(toks), n)) {
			wanted = append(wanted, n)
		}
	}
	n, at, e := x.parse(toks)
	if len(want) == 0 {
		if place := refusedAt(x.c, toks); e != api.ErrParse || at != place || fmt.Sprint(n) != "{0 0 0 []}" {
			t.Fatalf("%v: %v: got %v, %d at %d, want it at %d", x.c, toks, n, e, at, place)
		}
	} else {
		if e != api.OK || at != 0 || fmt.Sprint(n) != fmt.Sprint(want[0]) {
			t.Fatalf("%v: %v: got %v, %d at %d, want %v", x.c, toks, n, e, at, want[0])
		}
		wanted = append(wanted, len(x.c.Tokens))
	}
	if got := x.wanted(toks); !slices.Equal(got, wanted) {
		t.Fatalf("%v: %v: got wanted %v, want %v", x.c, toks, got, wanted)
	}
	return len(want) == 1
}

// P11.1, P11.2: all short lists of tokens, by many grammars.
func TestAllShortLists(t *testing.T) {
	r := rand.New(rand.NewSource(1))
	sentences, others := 0, 0
	for range 2000 {
		x := anyLang(r)
		all := [][]int{nil}
		for i := 0; i < len(all); i++ {
			if same(t, x, all[i]) {
				sentences++
			} else {
				others++
			}
			for n := 0; n < len(x.c.Tokens) && len(all[i]) < 5; n++ {
				all = append(all, append(slices.Clone(all[i]), n))
			}
		}
	}
	if sentences < 2000 || others < 10000 {
		t.Errorf("only %d are sentences, %d are not", sentences, others)
	}
}

// grown puts steps, whichever come, and adds what tokens come by that; no node, if there are more than left.
func grown(r *rand.Rand, c api.Cfg, sym int, toks *[]int, left *int) api.Tree {
	*left--
	n := api.Tree{Sym: sym}
	if sym >= 0 {
		n.At = len(*toks)
		*toks = append(*toks, sym)
		return n
	}
	n.Alt = r.Intn(len(c.Alts[-1-sym]))
	for _, s := range c.Alts[-1-sym][n.Alt] {
		if *left <= 0 {
			return n
		}
		n.Kids = append(n.Kids, grown(r, c, s, toks, left))
	}
	return n
}

// changed are toks with some one left out, doubled, or another one.
func changed(r *rand.Rand, c api.Cfg, toks []int) []int {
	at := r.Intn(len(toks))
	switch r.Intn(3) {
	case 0:
		return slices.Delete(slices.Clone(toks), at, at+1)
	case 1:
		return slices.Insert(slices.Clone(toks), at, toks[at])
	}
	l := slices.Clone(toks)
	l[at] = r.Intn(len(c.Tokens))
	return l
}

// tokensOf are the tokens of a tree that stand at their places; -1 at others.
func tokensOf(n api.Tree) []int {
	var l []int
	for open := []api.Tree{n}; len(open) > 0; {
		n := open[len(open)-1]
		open = open[:len(open)-1]
		if n.Sym >= 0 && n.At == len(l) {
			l = append(l, n.Sym)
		} else if n.Sym >= 0 {
			l = append(l, -1)
		}
		for _, kid := range slices.Backward(n.Kids) {
			open = append(open, kid)
		}
	}
	return l
}

// P11.1, P11.3: sentences as steps make them, and lists that are near.
func TestGrownSentences(t *testing.T) {
	r := rand.New(rand.NewSource(2))
	var rich []lang // of which many come, and long ones
	for _, s := range []string{nested, empty, "S = a S S | b T | c ; T = a T b | c ;", "S = T U S | d ; T = a T | b ; U = c S e | ;"} {
		rich = append(rich, read(t, s, "a b c d e"))
	}
	long, near := 0, 0
	for i := range 20000 {
		x := rich[i/2%len(rich)]
		if i%2 == 0 {
			x = anyLang(r)
		}
		var toks []int
		left := 300
		want := grown(r, x.c, -1, &toks, &left)
		if left <= 0 {
			continue
		}
		n, at, e := x.parse(toks)
		if e != api.OK || at != 0 || fmt.Sprint(n) != fmt.Sprint(want) || !slices.Equal(tokensOf(n), toks) {
			t.Fatalf("%v: %v: got %v, %d at %d, want %v", x.c, toks, n, e, at, want)
		}
		if len(toks) < 20 {
			continue
		}
		long++
		for range 3 {
			other := changed(r, x.c, toks)
			n, at, e := x.parse(other)
			if e == api.OK {
				if !slices.Equal(tokensOf(n), other) {
					t.Fatalf("%v: %v: got %v", x.c, other, n)
				}
				continue
			}
			near++
			if place := refusedAt(x.c, other); e != api.ErrParse || at != place {
				t.Fatalf("%v: %v: got %d at %d, want it at %d", x.c, other, e, at, place)
			}
			if at < len(other) {
				x.refused(t, append(slices.Clone(other[:at+1]), toks...), at, e)
			}
		}
	}
	if long < 300 || near < 300 {
		t.Errorf("only %d are long, %d are near to them", long, near)
	}
}
