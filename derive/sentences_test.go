package derive_test

import (
	"fmt"
	"math"
	"slices"
	"strconv"
	"strings"
	"testing"

	"quincunx/api"
	"quincunx/check"
	"quincunx/derive"
)

// told writes sentences by their tokens' names; - is the empty one.
func told(c api.Cfg, l [][]int) string {
	var out []string
	for _, s := range l {
		var names []string
		for _, n := range s {
			names = append(names, c.Tokens[n])
		}
		if len(s) == 0 {
			names = []string{"-"}
		}
		out = append(out, strings.Join(names, " "))
	}
	return strings.Join(out, ", ")
}

// P12.2: all sentences, the shorter ones first, those of one length in order.
func TestSentences(t *testing.T) {
	for _, x := range []struct {
		s, tokens, rule string
		long            int
		want            string
	}{
		{"S = a S b | ;", "a b", "S", 4, "-, a b, a a b b"}, // the chapter's example
		{"S = a S b | ;", "a b", "S", 0, "-"},
		{"S = a S b | ;", "a b", "S", 1, "-"},
		{"S = a S b | ;", "a b", "S", 2, "-, a b"},
		{"S = a S b | ;", "a b", "S", 3, "-, a b"},
		{"S = a S b | ;", "a b", "S", 8, "-, a b, a a b b, a a a b b b, a a a a b b b b"},
		// one rule
		{"S = ;", "", "S", 0, "-"},
		{"S = ;", "a b", "S", 8, "-"},
		{"S = a ;", "a", "S", 0, ""},
		{"S = a ;", "a", "S", 1, "a"},
		{"S = a ;", "a", "S", 8, "a"},
		{"S = a a a a a a a a ;", "a", "S", 7, ""},
		{"S = a a a a a a a a ;", "a", "S", 8, "a a a a a a a a"},
		{"S = a a a a a a a a a ;", "a", "S", 8, ""},
		{"S = a a a a a a a a a | b ;", "a b", "S", 8, "b"},
		{"S = S a | ;", "a", "S", 8, "-, a, a a, a a a, a a a a, a a a a a, a a a a a a, a a a a a a a, a a a a a a a a"},
		// in order by number, not as alternatives or names stand, each once
		{"S = c | a | b | a ;", "c b a", "S", 8, "c, b, a"},
		{"S = b a | c | a b | a a | a | a b ;", "a b c", "S", 3, "a, c, a a, a b, b a"},
		{"S = b a b | a c a | b b a | a a c | b | a a ;", "c b a", "S", 3, "b, a a, b b a, b a b, a c a, a a c"},
		{"S = T T ; T = b | a ;", "a b", "S", 2, "a a, a b, b a, b b"},
		{"S = S S | b | a ;", "a b", "S", 3, "a, b, a a, a b, b a, b b, a a a, a a b, a b a, a b b, b a a, b a b, b b a, b b b"},
		{"S = i S e S | i S | x ;", "i e x", "S", 5, "x, i x, i i x, i i i x, i x e x, i i i i x, i i x e x, i x e i x"},
		// of each rule its own, whichever begin with themselves, come to themselves or to nothing
		{"S = T T | c ; T = a | U ; U = b S | ;", "a b c", "S", 2, "-, a, b, c, a a, a b, b a, b b, b c"},
		{"S = T T | c ; T = a | U ; U = b S | ;", "a b c", "T", 2, "-, a, b, b a, b b, b c"},
		{"S = T T | c ; T = a | U ; U = b S | ;", "a b c", "U", 2, "-, b, b a, b b, b c"},
		{"S = S | a ;", "a", "S", 3, "a"},
		{"S = T | a ; T = U ; U = S | b ;", "a b", "T", 3, "a, b"},
		{"S = S S | ;", "a", "S", 8, "-"},
		{"S = T S T | b ; T = ;", "a b", "S", 8, "b"},
		{"S = T S T | b ; T = ;", "a b", "T", 8, "-"},
		{"S = A S B | c ; A = a | ; B = b | ;", "a b c", "S", 3, "c, a c, c b, a a c, a c b, c b b"},
		{"S = A B C ; A = a | ; B = b | ; C = A c | B ;", "a b c", "S", 2, "-, a, b, c, a b, a c, b b, b c"},
		{"S = A B C ; A = a | ; B = b | ; C = A c | B ;", "a b c", "C", 8, "-, b, c, a c"},
		{"S = A ; A = B ; B = C | a ; C = D b ; D = A | ;", "a b", "S", 3, "a, b, a b, b b, a b b, b b b"},
		{sums, "p m l r n", "E", 3, "n, l n r, n p n, n m n"},
		{sums, "p m l r n", "T", 5, "n, l n r, n m n, l l n r r, l n p n r, l n m n r, l n r m n, n m l n r, n m n m n"},
		{sums, "p m l r n", "F", 4, "n, l n r"},
	} {
		c := read(t, x.s, x.tokens)
		l, e := derive.Sentences(c, slices.Index(c.Names, x.rule), x.long)
		if got := told(c, l); e != api.OK || got != x.want {
			t.Errorf("%q: of %s, up to %d: got %s, %d, want %s", x.s, x.rule, x.long, got, e, x.want)
		}
	}
}

// P12.2: rules that are not there, and lengths that are not 0 to 8; that is told ahead of too many.
func TestSentencesOfWrongArguments(t *testing.T) {
	for _, s := range []string{"S = a S T | ; T = b ;", "S = S S | T ; T = a | b ;"} {
		c := read(t, s, "a b")
		for _, r := range []int{0, 1, 2, 3, 59, 60, 1 << 32, -1, -2, -3, math.MaxInt, math.MinInt} {
			for _, long := range []int{0, 3, 8, 9, 10, 256, 1 << 32, math.MaxInt, -1, -8, math.MinInt} {
				l, e := derive.Sentences(c, r, long)
				is := r >= 0 && r < 2 && long >= 0 && long <= 8
				if is == (e == api.ErrArg) || e != api.OK && len(l) > 0 {
					t.Errorf("%q, %d, %d: got %v, %d", s, r, long, l, e)
				}
			}
		}
	}
}

// tokens are the names of so many tokens, with what stands between.
func tokens(n int, between string) string {
	var l []string
	for i := range n {
		l = append(l, "t"+strconv.Itoa(i))
	}
	return strings.Join(l, between)
}

// P12.2: as many as MaxSentences are not too many, one more is, also if they are some other rule's, or longer than they are asked for.
func TestTooManySentences(t *testing.T) {
	twenty := " T = " + tokens(20, " | ") + " ;"
	const long = 8
	for _, x := range []struct {
		name, s string
		most    int   // up to so many tokens none has too many
		size    []int // how many each rule has then
	}{
		{"just as many", "S = T T ;" + twenty, long, []int{400, 20}},
		{"just as many, in several ways", "S = T T | S | U | T T ; U = T T ;" + twenty, long, []int{400, 400, 20}},
		{"one more, of the same length", "S = T T | t0 t20 ;" + twenty, 1, []int{0, 20}},
		{"one more, that is shorter", "S = T T | t20 ;" + twenty, 1, []int{1, 20}},
		{"one more, that is empty", "S = T T | ;" + twenty, 1, []int{1, 20}},
		{"one more, that is longer", "S = T T | t0 t0 t0 ;" + twenty, 2, []int{400, 20}},
		{"one more, by the longest one", "S = T T | t0 t0 t0 t0 t0 t0 t0 t0 ;" + twenty, 7, []int{400, 20}},
		{"one more, that is too long for any", "S = T T | t0 t0 t0 t0 t0 t0 t0 t0 t0 ;" + twenty, long, []int{400, 20}},
		{"far more", "S = T T T ;" + twenty, 2, []int{0, 20}},
		{"of another rule, short ones", "S = T | t0 t0 U ; U = T T | t0 ;" + twenty, 1, []int{20, 1, 20}},
		{"of another rule, that the others stand in", "S = T | U ; U = S S | T T | t20 ;" + twenty, 1, []int{21, 1, 20}},
		{"of another rule, with too long ones behind it", "S = T | t0 t0 t0 t0 t0 t0 t0 U ; U = T T | t20 ;" + twenty, 1, []int{20, 1, 20}},
		{"of another rule, far behind", "S = t0 | t0 t0 t0 t0 T ; T = t0 | t0 t0 t0 V ; V = W W | ; W = " + tokens(20, " | ") + " ;", 1, []int{1, 1, 1, 20}},
		{"of beginnings that are nothing's", "S = T T T T T T T T T T | t0 ;" + twenty, long, []int{1, 20}},
		{"of two", "S = S S | t0 | t1 | ;", 7, []int{255}},
		{"of three", "S = S S | t0 | t1 | t2 ;", 5, []int{363}},
		{"of three, and the empty one", "S = S T | ; T = t0 | t1 | t2 ;", 5, []int{364, 3}},
	} {
		c := read(t, x.s, tokens(21, " "))
		for n := range long + 1 {
			for r := range c.Names {
				l, e := derive.Sentences(c, r, n)
				if n > x.most && (e != api.ErrLong || len(l) > 0) {
					t.Errorf("%s: of %s, up to %d: got %d sentences, %d", x.name, c.Names[r], n, len(l), e)
				}
				if n <= x.most && (e != api.OK || n == x.most && len(l) != x.size[r]) {
					t.Errorf("%s: of %s, up to %d: got %d sentences, %d", x.name, c.Names[r], n, len(l), e)
				}
			}
		}
	}
}

// P12.2: as many tokens as there may be, each by its number.
func TestSentencesOfAllTokens(t *testing.T) {
	c := read(t, "S = T | U ; T = "+tokens(30, " | ")+" ; U = "+strings.Replace(tokens(60, " | "), tokens(30, " | ")+" | ", "", 1)+" ;", tokens(60, " "))
	l, e := derive.Sentences(c, 0, 1)
	if e != api.OK || len(l) != 60 {
		t.Fatalf("got %d, %d", len(l), e)
	}
	for n, s := range l {
		if !slices.Equal(s, []int{n}) {
			t.Errorf("%d: got %v", n, s)
		}
	}
	c = read(t, "S = t59 t58 t0 t59 t59 t1 t32 t59 | t59 t58 t0 t59 t59 t1 t31 | t59 t58 t0 t59 t59 t1 t32 t31 ;", tokens(60, " "))
	want := "t59 t58 t0 t59 t59 t1 t31, t59 t58 t0 t59 t59 t1 t32 t31, t59 t58 t0 t59 t59 t1 t32 t59"
	if l, e := derive.Sentences(c, 0, 8); e != api.OK || told(c, l) != want {
		t.Errorf("got %s, %d", told(c, l), e)
	}
}

// R2: the lists are the caller's own.
func TestOwnSentences(t *testing.T) {
	c := read(t, "S = a S b | T ; T = a | b | ;", "a b")
	was := fmt.Sprint(c)
	first, _ := derive.Sentences(c, 0, 5)
	want := told(c, first)
	for i := range first {
		_ = append(first[i], 1, 1, 1, 1, 1, 1, 1, 1) // behind one there is no other one
	}
	if got := told(c, first); got != want {
		t.Errorf("got %s, want %s", got, want)
	}
	second, _ := derive.Sentences(c, 0, 5)
	for i := range first {
		for at := range first[i] {
			first[i][at] = -1
		}
		first[i] = nil
	}
	third, _ := derive.Sentences(c, 0, 5)
	if told(c, second) != want || told(c, third) != want || fmt.Sprint(c) != was {
		t.Errorf("got %s, and then %s, want %s", told(c, second), told(c, third), want)
	}
	if e := check.Valid(c); e != api.OK {
		t.Errorf("got %d", e)
	}
}
