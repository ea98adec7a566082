package tree_test

import (
	"math"
	"slices"
	"strings"
	"testing"

	"quincunx/api"
	"quincunx/check"
	"quincunx/grammar"
	"quincunx/tree"
)

// read makes a grammar by numbers of a text; the tokens have blanks between.
func read(t testing.TB, s, tokens string) api.Cfg {
	t.Helper()
	g, at, e := grammar.Parse(s)
	if e != api.OK {
		t.Fatalf("%q: %d at %d", s, e, at)
	}
	c, e := check.Number(g, strings.Fields(tokens))
	if e != api.OK {
		t.Fatalf("%q, %q: %d", s, tokens, e)
	}
	return c
}

// tok is a token's node.
func tok(n, at int) api.Tree { return api.Tree{Sym: n, At: at} }

// rule is the node of the rule r.
func rule(r, alt int, kids ...api.Tree) api.Tree {
	return api.Tree{Sym: -1 - r, Alt: alt, Kids: kids}
}

const (
	nest = "S = a S b | ;"
	sums = "E = T X ; X = p T X | ; T = F Y ; Y = m F Y | ; F = l E r | n ;"
)

// nested is the chapter's example: of a a b b.
func nested() api.Tree {
	return rule(0, 0, tok(0, 0), rule(0, 0, tok(0, 1), rule(0, 1), tok(1, 2)), tok(1, 3))
}

// sum is n p n m n.
func sum() api.Tree {
	n := func(at int) api.Tree { return rule(4, 1, tok(4, at)) }
	return rule(0, 0,
		rule(2, 0, n(0), rule(3, 1)),
		rule(1, 0, tok(0, 1), rule(2, 0, n(2), rule(3, 0, tok(1, 3), n(4), rule(3, 1))), rule(1, 1)))
}

// P13.1, P13.2, P13.3: derivations one by one, and what all calls tell of them.
func TestDerivations(t *testing.T) {
	for _, x := range []struct {
		s, tokens   string
		n           api.Tree
		toks, steps []int
		size        int
		text        string
	}{
		{nest, "a b", nested(), []int{0, 0, 1, 1}, []int{0, 0, 1}, 7, "S(a S(a S() b) b)"}, // the chapter's example
		{nest, "a b", rule(0, 1), nil, []int{1}, 1, "S()"},
		{"S = x S yy | ;", "x yy", rule(0, 0, tok(0, 0), rule(0, 1), tok(1, 1)), []int{0, 1}, []int{0, 1}, 4, "S(x S() yy)"},
		{"S = ;", "", rule(0, 0), nil, []int{0}, 1, "S()"},
		{"S = b b a | a ;", "a b", rule(0, 0, tok(1, 0), tok(1, 1), tok(0, 2)), []int{1, 1, 0}, []int{0}, 4, "S(b b a)"},
		{"S = b b a | a ;", "a b", rule(0, 1, tok(0, 0)), []int{0}, []int{1}, 2, "S(a)"},
		// what is empty: ahead, behind, alone, in itself
		{"S = A A a A ; A = B | ; B = ;", "a", rule(0, 0, rule(1, 1), rule(1, 0, rule(2, 0)), tok(0, 0), rule(1, 1)), []int{0}, []int{0, 1, 0, 0, 1}, 6, "S(A() A(B()) a A())"},
		{"Rule = Rule | ;", "a", rule(0, 0, rule(0, 0, rule(0, 1))), nil, []int{0, 0, 1}, 3, "Rule(Rule(Rule()))"},
		// many ways: each is a derivation
		{"S = S S | a ;", "a", rule(0, 0, rule(0, 0, rule(0, 1, tok(0, 0)), rule(0, 1, tok(0, 1))), rule(0, 1, tok(0, 2))), []int{0, 0, 0}, []int{0, 0, 1, 1, 1}, 8, "S(S(S(a) S(a)) S(a))"},
		{"S = S S | a ;", "a", rule(0, 0, rule(0, 1, tok(0, 0)), rule(0, 0, rule(0, 1, tok(0, 1)), rule(0, 1, tok(0, 2)))), []int{0, 0, 0}, []int{0, 1, 0, 1, 1}, 8, "S(S(a) S(S(a) S(a)))"},
		{"S = a | a | a ;", "a", rule(0, 2, tok(0, 0)), []int{0}, []int{2}, 2, "S(a)"},
		// begins with itself
		{"S = S a | ;", "a", rule(0, 0, rule(0, 0, rule(0, 1), tok(0, 0)), tok(0, 1)), []int{0, 0}, []int{0, 0, 1}, 5, "S(S(S() a) a)"},
		{sums, "p m l r n", sum(), []int{4, 0, 4, 1, 4}, []int{0, 0, 1, 1, 0, 0, 1, 0, 1, 1, 1}, 16, "E(T(F(n) Y()) X(p T(F(n) Y(m F(n) Y())) X()))"},
	} {
		c := read(t, x.s, x.tokens)
		if !tree.Check(c, x.n, x.toks) {
			t.Errorf("%q, %s: no derivation", x.s, x.text)
		}
		if got := tree.Yield(x.n); !slices.Equal(got, x.toks) {
			t.Errorf("%q, %s: the tokens %v, want %v", x.s, x.text, got, x.toks)
		}
		if got := tree.Steps(x.n); !slices.Equal(got, x.steps) {
			t.Errorf("%q, %s: the steps %v, want %v", x.s, x.text, got, x.steps)
		}
		if got := tree.Size(x.n); got != x.size {
			t.Errorf("%q, %s: %d nodes, want %d", x.s, x.text, got, x.size)
		}
		if got := tree.Text(c, x.n); got != x.text {
			t.Errorf("%q: got %q, want %q", x.s, got, x.text)
		}
		n, at, e := tree.Grow(c, x.steps)
		if e != api.OK || at != 0 || !same(n, x.n) {
			t.Errorf("%q, %v: got %v, %d at %d, want %v", x.s, x.steps, n, e, at, x.n)
		}
	}
}

// same tells whether two trees are the same.
func same(a, b api.Tree) bool {
	return a.Sym == b.Sym && a.Alt == b.Alt && a.At == b.At && slices.EqualFunc(a.Kids, b.Kids, same)
}

// P13.1: each thing that a node must be.
func TestNoDerivations(t *testing.T) {
	const twice = "S = a S b | T | ; T = c | ;" // S 0: a S b, 1: T, 2: nothing; T 0: c, 1: nothing
	a, b, c := tok(0, 0), tok(1, 2), tok(2, 1)
	inner := rule(0, 1, rule(1, 0, c))
	whole := rule(0, 0, a, inner, b)
	toks := []int{0, 2, 1}
	g := read(t, twice, "a b c")
	if !tree.Check(g, whole, toks) {
		t.Fatal("no derivation")
	}
	at := func(n api.Tree, at int) api.Tree { n.At = at; return n }
	alt := func(n api.Tree, alt int) api.Tree { n.Alt = alt; return n }
	in := func(n api.Tree, kids ...api.Tree) api.Tree { n.Kids = kids; return n }
	sym := func(n api.Tree, sym int) api.Tree { n.Sym = sym; return n }
	for _, x := range []struct {
		name string
		n    api.Tree
		toks []int
	}{
		// the tree
		{"another rule's", rule(1, 0, tok(2, 0)), []int{2}},
		{"a token alone", tok(0, 0), []int{0}},
		{"nothing", api.Tree{}, nil},
		{"no rule's", sym(rule(0, 2), -3), nil},
		// a token's node
		{"another token", rule(0, 0, tok(1, 0), inner, b), toks},
		{"another token, and list", rule(0, 0, tok(1, 0), inner, b), []int{1, 2, 1}},
		{"no token, behind the last one", rule(0, 0, a, inner, tok(3, 2)), []int{0, 2, 3}},
		{"no token, the greatest", rule(0, 0, a, inner, tok(math.MaxInt, 2)), []int{0, 2, math.MaxInt}},
		{"an alternative", rule(0, 0, alt(a, 1), inner, b), toks},
		{"an alternative below 0", rule(0, 0, a, inner, alt(b, -1)), toks},
		{"a kid", rule(0, 0, in(a, tok(0, 0)), inner, b), toks},
		{"a kid that is a rule's", rule(0, 0, a, inner, in(b, rule(0, 2))), toks},
		// a rule's node
		{"of an alternative that there is not", alt(whole, 3), toks},
		{"of an alternative below 0", alt(whole, -1), toks},
		{"of an alternative far below 0", alt(whole, math.MinInt), toks},
		{"of an alternative far above", rule(0, 0, a, rule(0, 1, rule(1, math.MaxInt, c)), b), toks},
		{"of an alternative that only another rule has", rule(0, 1, rule(1, 2)), nil},
		{"of another alternative", alt(whole, 1), toks},
		{"of another alternative, without kids", rule(0, 0, a, rule(0, 1), b), toks},
		{"the empty alternative, with kids", alt(whole, 2), toks},
		{"at a place", at(whole, 1), toks},
		{"inside at a place", rule(0, 0, a, at(inner, 1), b), toks},
		{"inside at a place below 0", rule(0, 0, a, at(inner, -1), b), toks},
		{"empty at a place", at(rule(0, 2), 3), nil},
		{"a kid is wanting", rule(0, 0, a, inner), []int{0, 2}},
		{"the first kid is wanting", rule(0, 0, inner, b), toks},
		{"the kid between is wanting", rule(0, 0, a, tok(1, 1)), []int{0, 1}},
		{"all kids are wanting", rule(0, 0), nil},
		{"one kid more", rule(0, 0, a, inner, b, rule(0, 2)), toks},
		{"one kid more of the same", rule(0, 0, a, inner, b, tok(1, 3)), []int{0, 2, 1, 1}},
		{"kids in another order", rule(0, 0, inner, a, b), toks},
		{"a kid of another rule", rule(0, 0, a, rule(1, 0, c), b), toks},
		{"a kid that is no rule's", rule(0, 0, a, sym(inner, -3), b), toks},
		{"a kid that is no rule's at all", rule(0, 0, a, sym(inner, math.MinInt), b), toks},
		{"wrong far inside", rule(0, 0, a, rule(0, 1, rule(1, 0, c, c)), b), toks},
		{"wrong only inside", rule(0, 0, a, rule(0, 1, rule(1, 1, c)), b), toks},
		// its tokens
		{"of other tokens", whole, []int{0, 2, 0}},
		{"of other tokens, the first one", whole, []int{1, 2, 1}},
		{"of tokens in another order", whole, []int{0, 1, 2}},
		{"of fewer", whole, []int{0, 2}},
		{"of the later ones", whole, []int{2, 1}},
		{"of none", whole, nil},
		{"of more", whole, []int{0, 2, 1, 1}},
		{"of more, ahead", whole, []int{0, 0, 2, 1}},
		{"empty, of one", rule(0, 2), []int{0}},
		{"of a number below 0", rule(0, 2), []int{-1}},
		// their places
		{"one further", rule(0, 0, at(a, 1), inner, b), toks},
		{"one further, the last one", rule(0, 0, a, inner, at(b, 3)), toks},
		{"one less", rule(0, 0, a, inner, at(b, 1)), toks},
		{"below 0", rule(0, 0, at(a, -1), inner, b), toks},
		{"inside at 0", rule(0, 0, a, rule(0, 1, rule(1, 0, at(c, 0))), b), toks},
		{"two exchanged", rule(0, 0, at(a, 2), inner, at(b, 0)), toks},
		{"from 1 on", rule(0, 0, at(a, 1), rule(0, 1, rule(1, 0, at(c, 2))), at(b, 3)), toks},
		{"by nodes", rule(0, 0, at(a, 1), rule(0, 1, rule(1, 0, at(c, 4))), at(b, 5)), toks},
	} {
		if tree.Check(g, x.n, x.toks) {
			t.Errorf("%s: a derivation", x.name)
		}
	}
	if !tree.Check(g, whole, toks) {
		t.Error("no derivation any more")
	}
}

// P13.1: a rule must have a name, and alternatives, and a token must have a name; of others there need be nothing.
func TestCheckByOddGrammars(t *testing.T) {
	empty, one := rule(0, 0), rule(0, 0, tok(0, 0))
	other := rule(0, 1, rule(1, 0))
	names := []string{"S", "T"}
	alts := [][][]int{{{}, {-2}}, {{}}}
	for _, x := range []struct {
		name string
		c    api.Cfg
		n    api.Tree
		toks []int
		want bool
	}{
		{"nothing", api.Cfg{}, empty, nil, false},
		{"nothing, and no node", api.Cfg{}, api.Tree{}, nil, false},
		{"a name alone", api.Cfg{Names: names[:1]}, empty, nil, false},
		{"no alternative", api.Cfg{Names: names[:1], Alts: [][][]int{nil}}, empty, nil, false},
		{"alternatives alone", api.Cfg{Alts: alts[:1]}, empty, nil, false},
		{"both", api.Cfg{Names: names[:1], Alts: alts[:1]}, empty, nil, true},
		{"a name that is none", api.Cfg{Names: []string{""}, Alts: alts[:1]}, empty, nil, true},
		{"two, both", api.Cfg{Names: names, Alts: alts}, other, nil, true},
		{"two, one name", api.Cfg{Names: names[:1], Alts: alts}, other, nil, false},
		{"two, one with alternatives", api.Cfg{Names: names, Alts: alts[:1]}, other, nil, false},
		{"two, one with alternatives, another node", api.Cfg{Names: names, Alts: alts[:1]}, empty, nil, true},
		{"two, one name, another node", api.Cfg{Names: names[:1], Alts: alts}, empty, nil, true},
		{"no token", api.Cfg{Names: names[:1], Alts: [][][]int{{{0}}}}, one, []int{0}, false},
		{"a token", api.Cfg{Tokens: []string{""}, Names: names[:1], Alts: [][][]int{{{0}}}}, one, []int{0}, true},
		{"another rule is wrong", api.Cfg{Names: names, Alts: [][][]int{{{}}, {{7, -9}}}}, empty, nil, true},
		{"another alternative is wrong", api.Cfg{Names: names[:1], Alts: [][][]int{{{}, {7, -9}}}}, empty, nil, true},
		{"barren", api.Cfg{Names: names[:1], Alts: [][][]int{{{-1}}}}, rule(0, 0, rule(0, 0)), nil, false},
		{"all numbers are wrong", api.Cfg{Names: names[:1], Alts: [][][]int{{{7, -9}}}}, rule(0, 0, tok(7, 0), rule(8, 0)), []int{7}, false},
		{"longer than may be", api.Cfg{Tokens: []string{"a"}, Names: names[:1], Alts: [][][]int{{make([]int, 3)}}}, rule(0, 0, tok(0, 0), tok(0, 1), tok(0, 2)), []int{0, 0, 0}, true},
	} {
		if got := tree.Check(x.c, x.n, x.toks); got != x.want {
			t.Errorf("%s: got %v", x.name, got)
		}
	}
}

// P13.1, P13.2, P13.3: trees that are none: what is in a token is only counted.
func TestOddTrees(t *testing.T) {
	token := func(n, at, alt int, kids ...api.Tree) api.Tree {
		return api.Tree{Sym: n, At: at, Alt: alt, Kids: kids}
	}
	c := api.Cfg{Tokens: []string{"a", "bb"}, Names: []string{"S", "Tt"}} // no alternatives
	for _, x := range []struct {
		name        string
		n           api.Tree
		toks, steps []int
		size        int
		text        string
	}{
		{"nothing", api.Tree{}, []int{0}, nil, 1, "a"},
		{"a token", token(1, 7, 3), []int{1}, nil, 1, "bb"},
		{"no token", token(2, 0, 0), []int{2}, nil, 1, "?"},
		{"far from a token", token(math.MaxInt, 0, 0), []int{math.MaxInt}, nil, 1, "?"},
		{"another rule", rule(1, 9), nil, []int{9}, 1, "Tt()"},
		{"no rule", rule(2, -3), nil, []int{-3}, 1, "?()"},
		{"far from a rule", api.Tree{Sym: math.MinInt, Alt: math.MinInt}, nil, []int{math.MinInt}, 1, "?()"},
		{"far alternatives", rule(0, math.MaxInt, rule(0, math.MinInt)), nil, []int{math.MaxInt, math.MinInt}, 2, "S(S())"},
		{"in a token", token(0, 0, 0, rule(0, 5, tok(1, 0)), tok(1, 0)), []int{0}, nil, 4, "a"},
		{"in no token", token(9, 0, 0, rule(0, 5, tok(1, 0))), []int{9}, nil, 3, "?"},
		{"in tokens of a rule", rule(0, 4, token(0, 0, 1, rule(1, 5, tok(0, 0))), rule(1, 6, token(1, 0, 0, tok(0, 0), tok(0, 0))), tok(0, 0)), []int{0, 1, 0}, []int{4, 6}, 9, "S(a Tt(bb) a)"},
		{"in a token, far inside", rule(0, 1, rule(1, 2, token(1, 0, 0, rule(0, 3, rule(0, 4))))), []int{1}, []int{1, 2}, 5, "S(Tt(bb))"},
		{"without order", rule(1, 1, tok(1, 5), tok(0, 5), rule(0, 0), tok(1, -5)), []int{1, 0, 1}, []int{1, 0}, 5, "Tt(bb a S() bb)"},
		{"all unknown", rule(7, 0, rule(8, 1, tok(5, 0)), rule(9, 2), tok(6, 0), tok(7, 0)), []int{5, 6, 7}, []int{0, 1, 2}, 6, "?(?(?) ?() ? ?)"},
		{"brackets one behind the other", rule(0, 0, rule(0, 0, rule(0, 0, rule(0, 0)))), nil, []int{0, 0, 0, 0}, 4, "S(S(S(S())))"},
		{"brackets, and then more", rule(0, 0, rule(0, 0, rule(0, 0, rule(0, 0))), rule(1, 0), rule(0, 1, rule(0, 2)), tok(0, 0)), []int{0}, []int{0, 0, 0, 0, 0, 1, 2}, 8, "S(S(S(S())) Tt() S(S()) a)"},
		{"empty lists", api.Tree{Sym: -1, Kids: []api.Tree{{Sym: -2, Kids: []api.Tree{}}, {Sym: 0, Kids: []api.Tree{}}}}, []int{0}, []int{0, 0}, 3, "S(Tt() a)"},
	} {
		if got := tree.Yield(x.n); !slices.Equal(got, x.toks) {
			t.Errorf("%s: the tokens %v, want %v", x.name, got, x.toks)
		}
		if got := tree.Steps(x.n); !slices.Equal(got, x.steps) {
			t.Errorf("%s: the steps %v, want %v", x.name, got, x.steps)
		}
		if got := tree.Size(x.n); got != x.size {
			t.Errorf("%s: %d nodes, want %d", x.name, got, x.size)
		}
		if got := tree.Text(c, x.n); got != x.text {
			t.Errorf("%s: got %q, want %q", x.name, got, x.text)
		}
		if tree.Check(c, x.n, x.toks) {
			t.Errorf("%s: a derivation", x.name)
		}
	}
}

// P13.3: names are written as they stand, by whatever grammar.
func TestNamesInTexts(t *testing.T) {
	n := rule(0, 0, tok(0, 0), rule(1, 0, tok(1, 1)), rule(2, 0), tok(2, 2))
	for _, x := range []struct {
		tokens, names []string
		want          string
	}{
		{nil, nil, "?(? ?(?) ?() ?)"},
		{[]string{"a"}, []string{"S"}, "S(a ?(?) ?() ?)"},
		{[]string{"a", "b", "c", "d"}, []string{"S", "T", "U", "V"}, "S(a T(b) U() c)"},
		{[]string{"S", "S", "S"}, []string{"a", "a", "a"}, "a(S a(S) a() S)"},
		{[]string{"", "", ""}, []string{"", "", ""}, "( () () )"},
		{[]string{"(", " ", ")"}, []string{"(", ")", "?"}, "((( )( ) ?() ))"},
		{[]string{"\x00", "\xff\n", "é"}, []string{"日本", "\"", "%s"}, "日本(\x00 \"(\xff\n) %s() é)"},
	} {
		c := api.Cfg{Tokens: x.tokens, Names: x.names}
		if got := tree.Text(c, n); got != x.want {
			t.Errorf("%q, %q: got %q, want %q", x.tokens, x.names, got, x.want)
		}
	}
}
