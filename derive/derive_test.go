package derive_test

import (
	"fmt"
	"math"
	"slices"
	"strings"
	"testing"

	"quincunx/api"
	"quincunx/check"
	"quincunx/derive"
	"quincunx/grammar"
)

// read makes a grammar by numbers of its text; its tokens have blanks between.
func read(t testing.TB, s, tokens string) api.Cfg {
	t.Helper()
	g, at, e := grammar.Parse(s)
	if e != api.OK {
		t.Fatalf("%q: %d at %d", s, e, at)
	}
	c, e := check.Number(g, strings.Fields(tokens))
	if e != api.OK {
		t.Fatalf("%q, %q: %d, %v", s, tokens, e, check.Flaws(g, strings.Fields(tokens)))
	}
	return c
}

// numbers are those of names that have blanks between, of tokens and rules.
func numbers(t testing.TB, c api.Cfg, s string) []int {
	t.Helper()
	var l []int
	for _, name := range strings.Fields(s) {
		if n := slices.Index(c.Tokens, name); n >= 0 {
			l = append(l, n)
		} else if r := slices.Index(c.Names, name); r >= 0 {
			l = append(l, -1-r)
		} else {
			t.Fatalf("%q: no %s", s, name)
		}
	}
	return l
}

const sums = "E = E p T | T ; T = T m F | F ; F = l E r | n ;"

// P12.1: what is a sentence of seq, and what is none.
func TestDerives(t *testing.T) {
	for _, x := range []struct {
		s, tokens, seq string
		is, not        []string
	}{
		{"S = a S b | ;", "a b", "S", []string{"", "a b", "a a b b", "a a a b b b"}, []string{"a a b", "a", "b", "b a", "a b b", "a b a b", "a a b b a"}}, // the chapter's example
		// lists of no number, of tokens, of several rules, of both
		{"S = a S b | ;", "a b", "", []string{""}, []string{"a", "a b"}},
		{"S = a S b | ;", "a b", "b", []string{"b"}, []string{"", "a", "b b"}},
		{"S = a S b | ;", "a b", "b b a", []string{"b b a"}, []string{"", "b b", "b b b", "b b a a", "a b b"}},
		{"S = a S b | ;", "a b", "S S", []string{"", "a b", "a b a b", "a a b b a b", "a a b b"}, []string{"a a b", "a b b a", "a b a b a b"}},
		{"S = a S b | ;", "a b", "b S a", []string{"b a", "b a b a", "b a a b b a"}, []string{"", "b", "a", "b b a", "a b"}},
		{"S = a S b | ;", "a b", "S a S", []string{"a", "a b a", "a a b", "a b a a a b b"}, []string{"", "a b", "a a", "b a b"}},
		{"S = T T ; T = a | b c ;", "a b c", "T", []string{"a", "b c"}, []string{"", "a a", "b", "c", "b c a"}},
		{"S = T T ; T = a | b c ;", "a b c", "S", []string{"a a", "a b c", "b c a", "b c b c"}, []string{"", "a", "b c", "a a a", "a b"}},
		{"S = T T ; T = a | b c ;", "a b c", "T c S", []string{"a c a a", "b c c a b c"}, []string{"a a a", "a c a", "b c a a"}},
		// one rule
		{"S = ;", "", "S", []string{""}, nil},
		{"S = ;", "a b", "S", []string{""}, []string{"a", "b", "a b"}},
		{"S = b a b ;", "a b", "S", []string{"b a b"}, []string{"", "b a", "a b", "b a b b", "a b a"}},
		{"S = a | a b | a b b ;", "a b", "S", []string{"a", "a b", "a b b"}, []string{"", "b", "a b b b", "a a"}},
		// rules that begin with themselves, end so, and both
		{"S = S a | b ;", "a b", "S", []string{"b", "b a", "b a a a a a"}, []string{"", "a", "b b", "a b", "b a b"}},
		{"S = a S | b ;", "a b", "S", []string{"b", "a b", "a a a a a b"}, []string{"", "a", "b b", "b a", "b a b"}},
		{"S = S S | a ;", "a b", "S", []string{"a", "a a", "a a a", "a a a a a a a"}, []string{"", "b", "a b", "b a", "a a b a"}},
		{"S = S b S | a ;", "a b", "S", []string{"a", "a b a", "a b a b a b a"}, []string{"", "b", "a b", "b a", "a a", "a b b a"}},
		{"S = T a ; T = S b | c ;", "a b c", "S", []string{"c a", "c a b a", "c a b a b a"}, []string{"", "c", "c a b", "c b a", "a"}},
		{sums, "p m l r n", "E", []string{"n", "n p n", "n m n p n m n", "l n r", "l l n p n r m n r"}, []string{"", "p", "n n", "n p", "l n", "n r", "l r", "n p m n"}},
		{sums, "p m l r n", "T", []string{"n", "n m n", "l n p n r m n"}, []string{"", "n p n", "n m n p n", "m n"}},
		// rules that come to themselves, to nothing, and to both
		{"S = S | a ;", "a b", "S", []string{"a"}, []string{"", "b", "a a"}},
		{"S = T | a ; T = U ; U = S | b ;", "a b", "S", []string{"a", "b"}, []string{"", "a b", "a a"}},
		{"S = T | a ; T = U ; U = S | b ;", "a b", "U T", []string{"a b", "b b", "a a"}, []string{"", "a", "a b a"}},
		{"S = S S | ;", "a", "S", []string{""}, []string{"a", "a a"}},
		{"S = S S S | a | ;", "a b", "S", []string{"", "a", "a a", "a a a a a a a a a a"}, []string{"b", "a b", "b a"}},
		{"S = T S | b ; T = | a T ;", "a b", "S", []string{"b", "a b", "a a a b"}, []string{"", "a", "b a", "b b"}},
		{"S = T S T | b ; T = ;", "a b", "S", []string{"b"}, []string{"", "a", "b b"}},
		{"S = A B C ; A = a | ; B = b | ; C = A c | B ;", "a b c", "S", []string{"", "a", "b", "a b", "c", "a c", "a b a c", "b a c", "b b", "a b b"}, []string{"b a", "c c", "a a", "a b c c", "a b b b", "a b b c", "c a"}},
		{"S = T a T ; T = U U ; U = V | ; V = b | ;", "a b", "S", []string{"a", "b a", "a b", "b b a", "b a b b", "b b a b b"}, []string{"", "b", "b b b a", "a a", "a b b b"}},
		// where one ends can be told in several ways
		{"S = A B ; A = a A | a ; B = a B b | a b ;", "a b", "S", []string{"a a b", "a a a b", "a a a b b", "a a a a b b"}, []string{"a b", "a a b b", "a b b", "a a a b b b"}},
		{"S = T U | U T ; T = a | a a ; U = a | b a ;", "a b", "S", []string{"a a", "a a a", "a b a", "a a b a", "b a a", "b a a a"}, []string{"a", "a a a a", "b a", "b a b a", "a a b"}},
		{"S = i S e S | i S | x ;", "i e x", "S", []string{"x", "i x", "i x e x", "i i x e x", "i i x e x e x"}, []string{"", "i", "i e x", "x e x", "i x e x e x"}},
		{"P = a P a | b P b | a | b | ;", "a b", "P", []string{"", "a", "b b", "a b a", "a a b b a a", "b a a a b"}, []string{"a b", "a b b", "a a b", "a b a b"}},
	} {
		c := read(t, x.s, x.tokens)
		seq := numbers(t, c, x.seq)
		for want, all := range map[bool][]string{true: x.is, false: x.not} {
			for _, s := range all {
				if got := derive.Derives(c, seq, numbers(t, c, s)); got != want {
					t.Errorf("%q, %q: of %q got %v", x.s, x.seq, s, got)
				}
			}
		}
	}
}

// P12.1: what is no token's number is in no sentence, also where a rule's or the end's stands in seq.
func TestDerivesOfOtherNumbers(t *testing.T) {
	c := read(t, "S = a S T | a | ; T = b | ;", "a b")
	for _, n := range []int{2, 3, -1, -2, -3, 59, 60, 255, 256, 257, 1 << 32, math.MaxInt, math.MinInt, math.MinInt + 1} {
		for _, seq := range [][]int{nil, {-1}, {-2}, {-1, -2}, {0}, {0, -1, 1}, {0, 1}, {n}, {0, n}, {n, -1}} {
			for _, toks := range [][]int{{n}, {0, n}, {n, 1}, {0, n, 1}, {n, n}, {0, 1, n}, {n, 0, 1}} {
				if derive.Derives(c, seq, toks) {
					t.Errorf("%v: %v is said to be a sentence", seq, toks)
				}
			}
		}
	}
}

// R2: what was handed in stays what it is, and an answer hangs on nothing that was asked ahead.
func TestWhoseIsWhat(t *testing.T) {
	c := read(t, sums, "p m l r n")
	seq, toks := numbers(t, c, "E p T"), numbers(t, c, "n p l n r m n")
	was := fmt.Sprint(c, seq, toks)
	for range 3 {
		if !derive.Derives(c, seq, toks) || derive.Derives(c, seq, toks[:6]) || derive.Derives(c, seq[:2], toks) || derive.Derives(c, seq[2:], toks) {
			t.Error("another answer")
		}
		for r := range 3 {
			if _, e := derive.Sentences(c, r, 5); e != api.OK {
				t.Errorf("got %d", e)
			}
		}
	}
	if is := fmt.Sprint(c, seq, toks); is != was {
		t.Errorf("%s: now %s", was, is)
	}
}
