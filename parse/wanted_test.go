package parse_test

import (
	"slices"
	"strings"
	"testing"
)

// P11.2: what may stand behind tokens.
func TestWanted(t *testing.T) {
	for _, x := range []struct{ s, tokens, toks, want string }{
		// the chapter's example
		{"S = a S b | ;", "a b", "a", "a b"},
		{"S = a S b | ;", "a b", "", "a ?"},
		{"S = a S b | ;", "a b", "a b", "?"},
		{"S = a S b | ;", "a b", "a a b", "b"},
		// none: refused ahead of the end
		{"S = a S b | ;", "a b", "b", ""},
		{"S = a S b | ;", "a b", "a b b", ""},
		{"S = a S b | ;", "a b", "a b b a", ""},
		{"S = a S b | ;", "a b", "a b a", ""},
		{"S = ;", "a", "a", ""},
		// one rule
		{"S = ;", "", "", "?"},
		{"S = ;", "a b", "", "?"},
		{"S = a ;", "a b", "", "a"},
		{"S = a ;", "a b", "a", "?"},
		{"S = b | a ;", "a b c", "", "a b"}, // rising, not as they stand
		{"S = c b | | a a a ;", "a b c", "", "a c ?"},
		{"S = c b | | a a a ;", "a b c", "c", "b"},
		{"S = c b | | a a a ;", "a b c", "a", "a"},
		{"S = c b | | a a a ;", "a b c", "c b", "?"},
		{"S = a S | b ;", "a b c", "a a a", "a b"},
		// through other rules, and behind what may be empty
		{"S = A B C d ; A = a | ; B = b | ; C = c | ;", "a b c d", "", "a b c d"},
		{"S = A B C d ; A = a | ; B = b | ; C = c | ;", "a b c d", "a", "b c d"},
		{"S = A B C d ; A = a | ; B = b | ; C = c | ;", "a b c d", "b", "c d"},
		{"S = A B C d ; A = a | ; B = b | ; C = c | ;", "a b c d", "a c", "d"},
		{"S = A B C d ; A = a | ; B = b | ; C = c | ;", "a b c d", "a c d", "?"},
		{"S = A B C ; A = a | ; B = b | ; C = c | ;", "a b c", "a", "b c ?"},
		{"S = A B C ; A = a | ; B = b | ; C = c | ;", "a b c", "c", "?"},
		// what follows A here, not elsewhere
		{"S = a A b | c A d ; A = e | ;", "a b c d e", "a", "b e"},
		{"S = a A b | c A d ; A = e | ;", "a b c d e", "c", "d e"},
		{"S = a A b | c A d ; A = e | ;", "a b c d e", "c e", "d"},
		{"S = a A b | A ; A = e | ;", "a b e", "a", "b e"},
		{"S = a A b | A ; A = e | ;", "a b e", "e", "?"},
		{sums, "p m l r n", "", "l n"},
		{sums, "p m l r n", "n", "p m ?"},
		{sums, "p m l r n", "l n", "p m r"},
		{sums, "p m l r n", "l n r", "p m ?"},
		{sums, "p m l r n", "n p", "l n"},
		{sums, "p m l r n", "n r", ""},
	} {
		l := read(t, x.s, x.tokens)
		var got []string
		for _, n := range l.wanted(l.toks(x.toks)) {
			got = append(got, append(slices.Clone(l.c.Tokens), "?")[n])
		}
		if s := strings.Join(got, " "); s != x.want {
			t.Errorf("%q, %q: got %s, want %s", x.s, x.toks, s, x.want)
		}
	}
}
