package sets_test

import (
	"slices"
	"strconv"
	"strings"
	"testing"

	"quincunx/api"
	"quincunx/check"
	"quincunx/grammar"
	"quincunx/sets"
)

// read makes a grammar by numbers of its text; its tokens have blanks between.
func read(t testing.TB, s, tokens string) api.Cfg {
	t.Helper()
	g, at, e := grammar.Parse(s)
	if e != api.OK {
		t.Fatalf("%q: %d at %d", s, e, at)
	}
	c, e := check.Number(g, strings.Fields(tokens))
	if e != api.OK {
		t.Fatalf("%q, %q: %d, %v", s, tokens, e, check.Flaws(g, strings.Fields(tokens)))
	}
	return c
}

// names are the names of tokens, as they are told, and $ for the end.
func names(c api.Cfg, l []int) string {
	var out []string
	for _, n := range l {
		out = append(out, append(slices.Clone(c.Tokens), "$")[n])
	}
	return strings.Join(out, " ")
}

// told writes of each rule: its name (with ? behind it if it is nullable): what begins it / what follows it / how long its shortest sentence is.
func told(c api.Cfg) string {
	nullable, first, follow, short := sets.Nullable(c), sets.First(c), sets.Follow(c), sets.Short(c)
	var out []string
	for r, name := range c.Names {
		if nullable[r] {
			name += "?"
		}
		out = append(out, name+": "+names(c, first[r])+" / "+names(c, follow[r])+" / "+strconv.Itoa(short[r]))
	}
	return strings.Join(out, "; ")
}

// P9.1, P9.3: of each rule what it begins with, what follows it, and how short it may be.
func TestSets(t *testing.T) {
	for _, x := range []struct{ s, tokens, want string }{
		{"S = a S b | ;", "a b", "S?: a / b $ / 0"}, // the chapter's examples
		{"S = A c ; A = a | ;", "a c", "S: a c / $ / 1; A?: a / c / 0"},
		// one rule
		{"S = ;", "", "S?:  / $ / 0"},
		{"S = ;", "a b", "S?:  / $ / 0"}, // tokens that stand nowhere
		{"S = a ;", "a", "S: a / $ / 1"},
		{"S = b | a ;", "a b", "S: a b / $ / 1"}, // rising, not as they stand
		{"S = c | a | b | a c ;", "a b c", "S: a b c / $ / 1"},
		{"S = a b ;", "a b", "S: a / $ / 2"},
		{"S = a a a | a a | a a a a ;", "a", "S: a / $ / 2"},
		{"S = a S | b ;", "a b", "S: a b / $ / 1"},
		{"S = S a | b ;", "a b", "S: b / a $ / 1"},
		{"S = S a | ;", "a", "S?: a / a $ / 0"},
		{"S = S S | a ;", "a", "S: a / a $ / 1"},
		{"S = S S | a | ;", "a", "S?: a / a $ / 0"},
		{"S = S S S b | a | ;", "a b", "S?: a b / a b $ / 0"},
		{"S = S | a ;", "a", "S: a / $ / 1"},
		{"S = S | ;", "", "S?:  / $ / 0"},
		{"S = c S a S b | d ;", "a b c d", "S: c d / a b $ / 1"},
		// what is nullable
		{"S = A B ; A = a | ; B = b | ;", "a b", "S?: a b / $ / 0; A?: a / b $ / 0; B?: b / $ / 0"},
		{"S = A B ; A = a | ; B = b ;", "a b", "S: a b / $ / 1; A?: a / b / 0; B: b / $ / 1"},
		{"S = A B ; A = a ; B = b | ;", "a b", "S: a / $ / 1; A: a / b $ / 1; B?: b / $ / 0"},
		{"S = A A A ; A = a | ;", "a", "S?: a / $ / 0; A?: a / a $ / 0"},
		{"S = A ; A = B ; B = C ; C = ;", "", "S?:  / $ / 0; A?:  / $ / 0; B?:  / $ / 0; C?:  / $ / 0"},
		{"S = A ; A = B C | a ; B = C C ; C = | c A ;", "a c", "S?: a c / $ / 0; A?: a c / c $ / 0; B?: c / c $ / 0; C?: c / c $ / 0"},
		{"S = A a ; A = B B ; B = A | b | ;", "a b", "S: a b / $ / 1; A?: b / a b / 0; B?: b / a b / 0"},
		{"S = E a E b ; E = ;", "a b", "S: a / $ / 2; E?:  / a b / 0"},
		// what begins, through other rules and behind what may be empty
		{"S = A ; A = B ; B = C ; C = b | a ;", "a b", "S: a b / $ / 1; A: a b / $ / 1; B: a b / $ / 1; C: a b / $ / 1"},
		{"S = A B C d ; A = a | ; B = b | ; C = c | ;", "a b c d", "S: a b c d / $ / 1; A?: a / b c d / 0; B?: b / c d / 0; C?: c / d / 0"},
		{"S = A B C ; A = a | ; B = b ; C = c ;", "a b c", "S: a b / $ / 2; A?: a / b / 0; B: b / c / 1; C: c / $ / 1"}, // not behind B
		{"S = a A | A b ; A = B ; B = A c | d ;", "a b c d", "S: a d / $ / 2; A: d / b c $ / 1; B: d / b c $ / 1"},
		// what follows, through other rules and behind what may be empty
		{"S = A b ; A = a B ; B = c C ; C = d ;", "a b c d", "S: a / $ / 4; A: a / b / 3; B: c / b / 2; C: d / b / 1"},
		{"S = A B C ; A = a ; B = b | ; C = c | ;", "a b c", "S: a / $ / 1; A: a / b c $ / 1; B?: b / c $ / 0; C?: c / $ / 0"},
		{"S = A B C d ; A = a ; B = b | ; C = c | ;", "a b c d", "S: a / $ / 2; A: a / b c d / 1; B?: b / c d / 0; C?: c / d / 0"},
		{"S = A B | c ; A = a ; B = C ; C = c b | b ;", "a b c", "S: a c / $ / 1; A: a / b c / 1; B: b c / $ / 1; C: b c / $ / 1"},
		{"S = a A | b ; A = S c | S ;", "a b c", "S: a b / c $ / 1; A: a b / c $ / 1"}, // the first rule within others
		{"S = a T b ; T = U ; U = T c | d ;", "a b c d", "S: a / $ / 3; T: d / b c / 1; U: d / b c / 1"},
		{"S = A a A b ; A = c | ;", "a b c", "S: a c / $ / 2; A?: c / a b / 0"}, // at each place
		{"S = A a | b A ; A = c ;", "a b c", "S: b c / $ / 2; A: c / a $ / 1"},  // in each alternative
		{"S = A a | B ; A = c ; B = b A ;", "a b c", "S: b c / $ / 2; A: c / a $ / 1; B: b / $ / 2"},
		{"S = A A ; A = a A | b ;", "a b", "S: a b / $ / 2; A: a b / a b $ / 1"},
		{"S = T T ; T = U V ; U = u | ; V = v | ;", "u v", "S?: u v / $ / 0; T?: u v / u v $ / 0; U?: u / u v $ / 0; V?: v / u v $ / 0"},
		{"S = a T a ; T = T T | b ;", "a b", "S: a / $ / 3; T: b / a b / 1"}, // no end
		// the rules' order does not matter but for the first one
		{"S = b T ; U = ; T = a U ;", "a b", "S: b / $ / 2; U?:  / $ / 0; T: a / $ / 1"},
		// a grammar of terms
		{"E = T M ; M = p T M | ; T = F N ; N = m F N | ; F = o E c | i ;", "i m p o c",
			"E: i o / c $ / 1; M?: p / c $ / 0; T: i o / p c $ / 1; N?: m / p c $ / 0; F: i o / m p c $ / 1"},
		{"E = E p T | T ; T = T m F | F ; F = o E c | i ;", "i m p o c",
			"E: i o / p c $ / 1; T: i o / m p c $ / 1; F: i o / m p c $ / 1"},
	} {
		if got := told(read(t, x.s, x.tokens)); got != x.want {
			t.Errorf("%q, %q:\ngot  %s\nwant %s", x.s, x.tokens, got, x.want)
		}
	}
}
