package parse_test

import (
	"math"
	"slices"
	"strconv"
	"strings"
	"testing"

	"quincunx/api"
	"quincunx/check"
	"quincunx/grammar"
	"quincunx/parse"
	"quincunx/table"
)

// lang is a grammar by numbers, and its table.
type lang struct {
	c api.Cfg
	t [][]int
}

// read makes both of a grammar's text; the tokens have blanks between.
func read(t testing.TB, s, tokens string) lang {
	t.Helper()
	g, at, e := grammar.Parse(s)
	if e != api.OK {
		t.Fatalf("%q: %d at %d", s, e, at)
	}
	c, e := check.Number(g, strings.Fields(tokens))
	if e != api.OK {
		t.Fatalf("%q, %q: %d", s, tokens, e)
	}
	return built(t, c)
}

// built is a grammar that may be, and its table.
func built(t testing.TB, c api.Cfg) lang {
	t.Helper()
	l, e := table.Build(c)
	if e != api.OK || check.Valid(c) != api.OK {
		t.Fatalf("%v: %d, %d", c, e, check.Valid(c))
	}
	return lang{c, l}
}

func (x lang) parse(toks []int) (api.Tree, int, api.Errno) { return parse.Parse(x.c, x.t, toks) }

func (x lang) wanted(toks []int) []int { return parse.Wanted(x.c, x.t, toks) }

// toks are the numbers of tokens that have blanks between; a ? is no token's, but the end's.
func (x lang) toks(s string) []int {
	var l []int
	for _, name := range strings.Fields(s) {
		n := slices.Index(x.c.Tokens, name)
		if name == "?" {
			n = len(x.c.Tokens)
		}
		l = append(l, n)
	}
	return l
}

// told writes of a token its name and place, of a rule its name and alternative, and what is in it; a ! where something is not zero.
func (x lang) told(n api.Tree) string {
	if n.Sym >= 0 {
		s := x.c.Tokens[n.Sym] + strconv.Itoa(n.At)
		if n.Alt != 0 || len(n.Kids) > 0 {
			s += "!"
		}
		return s
	}
	s := x.c.Names[-1-n.Sym] + strconv.Itoa(n.Alt)
	if n.At != 0 {
		s += "!"
	}
	if len(n.Kids) == 0 {
		return s
	}
	var in []string
	for _, kid := range n.Kids {
		in = append(in, x.told(kid))
	}
	return s + "(" + strings.Join(in, " ") + ")"
}

const sums = "E = T X ; X = p T X | ; T = F Y ; Y = m F Y | ; F = l E r | n ;"

// P11.1: sentences and their trees.
func TestTrees(t *testing.T) {
	for _, x := range []struct{ s, tokens, toks, want string }{
		{"S = a S b | ;", "a b", "a a b b", "S0(a0 S0(a1 S1 b2) b3)"}, // the chapter's example
		{"S = a S b | ;", "a b", "", "S1"},
		{"S = a S b | ;", "a b", "a b", "S0(a0 S1 b1)"},
		// one rule
		{"S = ;", "", "", "S0"},
		{"S = ;", "a b", "", "S0"}, // tokens that stand nowhere
		{"S = a ;", "a", "a", "S0(a0)"},
		{"S = b b a ;", "a b", "b b a", "S0(b0 b1 a2)"},
		{"S = c b | | a a a ;", "a b c", "", "S1"},
		{"S = c b | | a a a ;", "a b c", "c b", "S0(c0 b1)"},
		{"S = c b | | a a a ;", "a b c", "a a a", "S2(a0 a1 a2)"},
		{"S = a S b S | ;", "a b", "a a b a b b a b", "S0(a0 S0(a1 S1 b2 S0(a3 S1 b4 S1)) b5 S0(a6 S1 b7 S1))"},
		{"S = a S a | b ;", "a b", "a a b a a", "S0(a0 S0(a1 S1(b2) a3) a4)"},
		{"S = a S S | b ;", "a b", "a a b b b", "S0(a0 S0(a1 S1(b2) S1(b3)) S1(b4))"},
		// several rules, numbered as they stand
		{"S = A | B ; A = C a | b ; B = d ; C = c ;", "a b c d", "d", "S1(B0(d0))"},
		{"S = A | B ; A = C a | b ; B = d ; C = c ;", "a b c d", "c a", "S0(A0(C0(c0) a1))"},
		{"S = B A ; A = a B | ; B = b | c ;", "a b c", "b a c", "S0(B0(b0) A0(a1 B1(c2)))"},
		{"S = B A ; A = a B | ; B = b | c ;", "a b c", "c", "S0(B1(c0) A1)"},
		// what is empty at times: at a token that follows, at the end, and inside others
		{"S = A B C d ; A = a | ; B = b | ; C = c | ;", "a b c d", "d", "S0(A1 B1 C1 d0)"},
		{"S = A B C d ; A = a | ; B = b | ; C = c | ;", "a b c d", "a c d", "S0(A0(a0) B1 C0(c1) d2)"},
		{"S = A B C d ; A = a | ; B = b | ; C = c | ;", "a b c d", "b d", "S0(A1 B0(b0) C1 d1)"},
		{"S = A B | c ; A = a | ; B = b | ;", "a b c", "", "S0(A1 B1)"},
		{"S = A B | c ; A = a | ; B = b | ;", "a b c", "b", "S0(A1 B0(b0))"},
		{"S = A b ; A = B ; B = C C ; C = ;", "a b", "b", "S0(A0(B0(C0 C0)) b0)"},
		{"S = i S E | x ; E = e S | f ;", "i e x f", "i i x f e x", "S0(i0 S0(i1 S1(x2) E1(f3)) E0(e4 S1(x5)))"},
		// the textbook's sums
		{sums, "p m l r n", "n", "E0(T0(F1(n0) Y1) X1)"},
		{sums, "p m l r n", "n m n p n", "E0(T0(F1(n0) Y0(m1 F1(n2) Y1)) X0(p3 T0(F1(n4) Y1) X1))"},
		{sums, "p m l r n", "l n r", "E0(T0(F0(l0 E0(T0(F1(n1) Y1) X1) r2) Y1) X1)"},
	} {
		l := read(t, x.s, x.tokens)
		n, at, e := l.parse(l.toks(x.toks))
		if got := l.told(n); e != api.OK || at != 0 || got != x.want {
			t.Errorf("%q, %q: got %s, %d at %d, want %s", x.s, x.toks, got, e, at, x.want)
		}
	}
}

// refused checks that toks are refused at a place, with no node.
func (x lang) refused(t testing.TB, toks []int, at int, e api.Errno) {
	t.Helper()
	n, gotAt, got := x.parse(toks)
	if got != e || gotAt != at || n.Sym != 0 || n.Alt != 0 || n.At != 0 || n.Kids != nil {
		if len(toks) > 20 {
			toks = toks[:20]
		}
		t.Errorf("%v, %v..: got %d at %d, of the symbol %d, want %d at %d", x.c.Names, toks, got, gotAt, n.Sym, e, at)
	}
}

// P11.1: what is no sentence, and where; P11.3: whatever stands behind the place.
func TestRefused(t *testing.T) {
	for _, x := range []struct {
		s, tokens, toks string
		at              int
	}{
		// the chapter's examples
		{"S = a S b | ;", "a b", "a b b", 2},
		{"S = a S b | ;", "a b", "a a", 2},
		// a token is wanted, and there is another one, or the end
		{"S = a b ;", "a b", "", 0},
		{"S = a b ;", "a b", "b", 0},
		{"S = a b ;", "a b", "a", 1},
		{"S = a b ;", "a b", "a a", 1},
		{"S = a b ;", "a b", "b a", 0},
		{"S = a S b | ;", "a b", "a a b a", 3},
		{"S = a S b | ;", "a b", "a a b", 3},
		{"S = a a | b ;", "a b", "a b a", 1},
		// the table tells no alternative
		{"S = a | b ;", "a b c", "c", 0},
		{"S = a | b ;", "a b c", "", 0},
		{"S = a S | b ;", "a b c", "a a c", 2},
		{"S = a S | b ;", "a b c", "a a", 2},
		{"S = A B C d ; A = a | ; B = b | ; C = c | ;", "a b c d", "a c b d", 2},
		{"S = A B C d ; A = a | ; B = b | ; C = c | ;", "a b c d", "b a d", 1},
		{"S = A B C d ; A = a | ; B = b | ; C = c | ;", "a b c d", "c", 1},
		{"S = A B | c ; A = a | ; B = b | ;", "a b c", "a c", 1},
		// empty by what may follow elsewhere, and refused behind that
		{"S = a A b | c A d ; A = e | ;", "a b c d e", "a d", 1},
		{"S = a A b | c A d ; A = e | ;", "a b c d e", "a e d", 2},
		{"S = a A b | A ; A = e | ;", "a b e", "a", 1},
		// a token is left
		{"S = ;", "a", "a", 0},
		{"S = ;", "a", "a a", 0},
		{"S = a ;", "a", "a a", 1},
		{"S = a ;", "a b", "a b a", 1},
		{"S = a S b | ;", "a b", "a a b b a", 4},
		{"S = a | b c ;", "a b c", "b c c", 2},
		{sums, "p m l r n", "n p n r", 3},
		{sums, "p m l r n", "n p m n", 2},
		{sums, "p m l r n", "l n", 2},
		{sums, "p m l r n", "l r", 1},
		{sums, "p m l r n", "n n", 1},
	} {
		l := read(t, x.s, x.tokens)
		toks := l.toks(x.toks)
		l.refused(t, toks, x.at, api.ErrParse)
		if x.at == len(toks) {
			continue
		}
		for n := range l.c.Tokens {
			l.refused(t, append(slices.Clone(toks), n, n), x.at, api.ErrParse)
			l.refused(t, append(slices.Clone(toks[:x.at+1]), n), x.at, api.ErrParse)
			l.refused(t, toks[:x.at+1], x.at, api.ErrParse)
		}
	}
}

// P11.1: numbers that are no token's are told ahead of all else, the first one of them.
func TestNoTokens(t *testing.T) {
	for _, n := range []int{-1, -2, -3, 2, 3, 60, 1 << 32, math.MaxInt, math.MinInt} {
		l := read(t, "S = a S b | A ; A = ;", "a b")
		for _, x := range []struct {
			toks []int
			at   int
		}{
			{[]int{n}, 0},
			{[]int{n, 0, 1}, 0},
			{[]int{0, n, 1}, 1},
			{[]int{0, 1, n}, 2},
			{[]int{n, n}, 0},
			{[]int{0, n, 0, -1, 2, n}, 1},
			{[]int{1, 1, n}, 2},    // the first one is none that may stand there
			{[]int{0, 1, 1, n}, 3}, // one is left
			{append(make([]int, 30000), n), 30000},
		} {
			l.refused(t, x.toks, x.at, api.ErrArg)
			if got := l.wanted(x.toks); len(got) != 0 {
				t.Errorf("%v: got %v", x.toks, got)
			}
		}
	}
	l := read(t, "S = ;", "")
	l.refused(t, []int{0}, 0, api.ErrArg)
	l.refused(t, []int{-1}, 0, api.ErrArg)
}
