package table_test

import (
	"math"
	"slices"
	"strconv"
	"strings"
	"testing"

	"quincunx/api"
	"quincunx/check"
	"quincunx/grammar"
	"quincunx/table"
)

// read makes a grammar by numbers of its text; its tokens have blanks between.
func read(t testing.TB, s, tokens string) api.Cfg {
	t.Helper()
	g, at, e := grammar.Parse(s)
	if e != api.OK {
		t.Fatalf("%q: %d at %d", s, e, at)
	}
	c, e := check.Number(g, strings.Fields(tokens))
	if e != api.OK {
		t.Fatalf("%q, %q: %d", s, tokens, e)
	}
	return c
}

// nameOf is a token's name, $ for the end.
func nameOf(c api.Cfg, token int) string { return append(slices.Clone(c.Tokens), "$")[token] }

// toldTable writes of each rule its name, and for each token, and the end, the alternative that is taken, - for none.
func toldTable(c api.Cfg, l [][]int) string {
	var out []string
	for r, row := range l {
		s := c.Names[r] + ":"
		for _, alt := range row {
			if alt == -1 {
				s += " -"
			} else {
				s += " " + strconv.Itoa(alt)
			}
		}
		out = append(out, s)
	}
	return strings.Join(out, "; ")
}

// toldClashes writes of each clash the rule, the token, and both alternatives.
func toldClashes(c api.Cfg, l []api.Clash) string {
	var out []string
	for _, x := range l {
		out = append(out, c.Names[x.Rule]+" "+nameOf(c, x.Token)+" "+strconv.Itoa(x.A)+" "+strconv.Itoa(x.B))
	}
	return strings.Join(out, "; ")
}

// P10.3: tables of grammars without clashes; P10.2: these have none.
func TestBuild(t *testing.T) {
	for _, x := range []struct{ s, tokens, want string }{
		{"S = a S b | ;", "a b", "S: 0 1 1"}, // the chapter's example
		// one rule
		{"S = ;", "", "S: 0"},
		{"S = ;", "a b", "S: - - 0"}, // tokens that stand nowhere
		{"S = a ;", "a", "S: 0 -"},
		{"S = b | a ;", "a b", "S: 1 0 -"},
		{"S = c b | | a a a ;", "a b c", "S: 2 - 0 1"},
		{"S = a S | b ;", "a b", "S: 0 1 -"},
		{"S = a S | ;", "a", "S: 0 1"},
		{"S = a S b S | ;", "a b", "S: 0 1 1"},
		{"S = a S a | b ;", "a b", "S: 0 1 -"},
		// what begins comes through other rules, and from behind what may be empty
		{"S = A c ; A = a | ;", "a c", "S: 0 0 -; A: 0 1 -"},
		{"S = A | B ; A = C a | b ; B = d ; C = c ;", "a b c d", "S: - 0 0 1 -; A: - 1 0 - -; B: - - - 0 -; C: - - 0 - -"},
		{"S = A B C d ; A = a | ; B = b | ; C = c | ;", "a b c d", "S: 0 0 0 0 -; A: 0 1 1 1 -; B: - 0 1 1 -; C: - - 0 1 -"},
		{"S = A B | c ; A = a ; B = b ;", "a b c", "S: 0 - 1 -; A: 0 - - -; B: - 0 - -"}, // b begins B, not A B
		// what is empty at times is taken at what follows, through other rules too
		{"S = A B | c ; A = a | ; B = b | ;", "a b c", "S: 0 0 1 0; A: 0 1 - 1; B: - 0 - 1"},
		{"S = A b ; A = B ; B = C ; C = ;", "a b", "S: - 0 -; A: - 0 -; B: - 0 -; C: - 0 -"},
		{"S = a T c ; T = U | b ; U = d | ;", "a b c d", "S: 0 - - - -; T: - 1 0 0 -; U: - - 1 0 -"},
		{"S = A a ; A = B | b ; B = a C ; C = | c ;", "a b c", "S: 0 0 - -; A: 0 1 - -; B: 0 - - -; C: 0 - 1 -"},
		{"S = c A a | b A ; A = | c ;", "a b c", "S: - 1 0 -; A: 0 - 1 0"}, // at what follows any place of it
		// the textbook's sums
		{"E = T X ; X = p T X | ; T = F Y ; Y = m F Y | ; F = l E r | n ;", "p m l r n",
			"E: - - 0 - 0 -; X: 0 - - 1 - 1; T: - - 0 - 0 -; Y: 1 0 - 1 - 1; F: - - 0 - 1 -"},
	} {
		c := read(t, x.s, x.tokens)
		l, e := table.Build(c)
		if got := toldTable(c, l); e != api.OK || got != x.want {
			t.Errorf("%q: got %d, %s, want %s", x.s, e, got, x.want)
		}
		if l := table.Clashes(c); len(l) != 0 {
			t.Errorf("%q: got clashes %v", x.s, l)
		}
	}
}

// P10.2: clashes, rule by rule, token by token, pair by pair; P10.3: with any of them there is no table.
func TestClashes(t *testing.T) {
	for _, x := range []struct{ s, tokens, want string }{
		{"S = a | a b ;", "a b", "S a 0 1"}, // the chapter's example
		// one rule
		{"S = a | a ;", "a", "S a 0 1"}, // the same alternative twice
		{"S = a | b | a ;", "a b", "S a 0 2"},
		{"S = a | a b | a a | b ;", "a b", "S a 0 1; S a 0 2; S a 1 2"},
		{"S = a | a | a | a ;", "a", "S a 0 1; S a 0 2; S a 0 3; S a 1 2; S a 1 3; S a 2 3"},
		{"S = b | a | b | a | c ;", "a b c", "S a 1 3; S b 0 2"}, // by the token ahead of the alternatives
		{"S = | ;", "a", "S $ 0 1"},
		{"S = | a | | ;", "a", "S $ 0 2; S $ 0 3; S $ 2 3"},
		{"S = S a | b ;", "a b", "S b 0 1"},
		{"S = S a | ;", "a", "S a 0 1"},
		{"S = S | a ;", "a", "S a 0 1"},
		{"S = S | ;", "", "S $ 0 1"},
		{"S = a S a | ;", "a", "S a 0 1"},
		{"S = S S | a | ;", "a", "S a 0 1; S a 0 2; S a 1 2; S $ 0 2"},
		// both begin with it, through other rules
		{"S = A | B ; A = a | c ; B = c | b | a ;", "a b c", "S a 0 1; S c 0 1"},
		{"S = A B | b ; A = a | ; B = b ;", "a b", "S b 0 1"},
		{"S = A | a B ; A = C ; C = B | b ; B = a ;", "a b", "S a 0 1"},
		// one begins with it, and it follows the other one, which is empty at times
		{"S = A a ; A = a | ;", "a", "A a 0 1"},
		{"S = A a ; A = | a ;", "a", "A a 0 1"},
		{"S = A B ; A = a | C ; C = ; B = b | a ;", "a b", "A a 0 1"},
		{"S = A b ; A = a B | B ; B = b | ;", "a b", "B b 0 1"},
		{"S = i S E | x ; E = e S | ;", "i e x", "E e 0 1"}, // the else that dangles
		// both are empty at times: at all that follows
		{"S = A | B ; A = a | ; B = b | ;", "a b", "S $ 0 1"},
		{"S = T a | T b ; T = U | V ; U = ; V = ;", "a b", "T a 0 1; T b 0 1"},
		{"S = c T a | c T | b ; T = | d | ;", "a b c d", "S c 0 1; T a 0 2; T $ 0 2"},
		// of several rules
		{"S = a | B | a B ; B = c | b | b b ;", "a b c", "S a 0 2; B b 1 2"},
		{"S = B C | ; B = b | b ; C = c | a | a | c ;", "a b c", "B b 0 1; C a 1 2; C c 0 3"},
	} {
		c := read(t, x.s, x.tokens)
		if got := toldClashes(c, table.Clashes(c)); got != x.want {
			t.Errorf("%q: got %s, want %s", x.s, got, x.want)
		}
		if l, e := table.Build(c); e != api.ErrClash || l != nil {
			t.Errorf("%q: got %v, %d", x.s, l, e)
		}
	}
}

// P10.1: what alternatives are taken at, whether or not there are clashes.
func TestPredict(t *testing.T) {
	for _, x := range []struct{ s, tokens, want string }{
		{"S = a S b | ;", "a b", "S 0: a; S 1: b $"},
		{"S = a | a b ;", "a b", "S 0: a; S 1: a"},
		{"S = ;", "a b", "S 0: $"},
		{"S = A | B c ; A = c | b | a ; B = c B | b B a | a B | ;", "a b c", // rising, not as they stand
			"S 0: a b c; S 1: a b c; A 0: c; A 1: b; A 2: a; B 0: c; B 1: b; B 2: a; B 3: a c"},
		{"S = A a ; A = B | b ; B = a | ;", "a b", "S 0: a b; A 0: a; A 1: b; B 0: a; B 1: a"}, // a begins A 0, and follows it: once
		{"S = A c b ; A = B B | b ; B = d | a | ;", "a b c d", "S 0: a b c d; A 0: a c d; A 1: b; B 0: d; B 1: a; B 2: a c d"},
		{"S = A B ; A = a | ; B = b | ;", "a b", "S 0: a b $; A 0: a; A 1: b $; B 0: b; B 1: $"},
	} {
		c := read(t, x.s, x.tokens)
		var got []string
		for r, name := range c.Names {
			for alt := range c.Alts[r] {
				s := name + " " + strconv.Itoa(alt) + ":"
				for _, token := range table.Predict(c, r, alt) {
					s += " " + nameOf(c, token)
				}
				got = append(got, s)
			}
		}
		if s := strings.Join(got, "; "); s != x.want {
			t.Errorf("%q: got %s, want %s", x.s, s, x.want)
		}
	}
}

// P10.1: of an alternative that is not there, nothing.
func TestPredictOfNone(t *testing.T) {
	c := read(t, "S = a S T | ; T = b | | c ;", "a b c")
	others := []int{-1, -2, 3, 4, 60, -60, 1 << 32, math.MaxInt, math.MinInt, math.MinInt + 1}
	for _, n := range others {
		for _, k := range append(others, 0, 1, 2) {
			if l := append(table.Predict(c, n, k), table.Predict(c, k, n)...); len(l) != 0 {
				t.Errorf("%d, %d: got %v", n, k, l)
			}
		}
	}
	for alt := range 3 {
		if l := table.Predict(c, 2, alt); len(l) != 0 { // behind the last rule
			t.Errorf("%d: got %v", alt, l)
		}
	}
	if l := table.Predict(c, 0, 2); len(l) != 0 { // the rule behind has it
		t.Errorf("got %v", l)
	}
	if l := table.Predict(c, 1, 2); !slices.Equal(l, []int{2}) {
		t.Errorf("got %v", l)
	}
}
