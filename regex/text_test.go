package regex_test

import (
	"math/rand"
	"strings"
	"testing"

	"quincunx/api"
	"quincunx/regex"
)

// P2.3: expressions and their texts.
func TestText(t *testing.T) {
	a, b, c := one('a'), one('b'), one('c')
	for _, x := range []struct {
		r    api.Re
		want string
	}{
		{empty(), "()"},
		{a, "a"},
		// sets
		{set(span('a', 'b')), "[ab]"},
		{set(span('a', 'c')), "[a-c]"},
		{set(span('a', 'a'), span('c', 'c')), "[ac]"},
		{set(span('a', 'a'), span('c', 'd'), span('x', 'z')), "[acdx-z]"},
		{set(span(0, 255)), `[\x00-\xff]`},
		{set(span(0, 9), span(11, 255)), `[\x00-\t\x0b-\xff]`},
		{set(span(0, 1)), `[\x00\x01]`},
		{set(span(254, 255)), `[\xfe\xff]`},
		{set(span(9, 10)), `[\t\n]`},
		{set(span(9, 13)), `[\t-\r]`},
		{set(span('+', '-')), `[\+-\-]`},
		{set(span(',', '-')), `[,\-]`},
		{set(span('(', '+'), span(']', '^')), `[\(-\+\]\^]`},
		// bytes
		{one('\n'), `\n`}, {one('\t'), `\t`}, {one('\r'), `\r`},
		{word(`\|*+?()[].^-`), `\\\|\*\+\?\(\)\[\]\.\^\-`},
		{word(" ~"), " ~"}, {word("\x1f\x7f"), `\x1f\x7f`}, {word("\x00\x0b\xab\xff"), `\x00\x0b\xab\xff`},
		{word("{}$/\"'#:;,<=>@!%&_`"), "{}$/\"'#:;,<=>@!%&_`"},
		// cat
		{cat(a, b), "ab"},
		{cat(a, b, c), "abc"},
		{cat(cat(a, b), c), "(ab)c"},
		{cat(a, cat(b, c)), "a(bc)"},
		{cat(alt(a, b), c), "(a|b)c"},
		{cat(a, alt(b, c)), "a(b|c)"},
		{cat(empty(), a), "()a"},
		{cat(empty(), empty()), "()()"},
		{cat(star(a), plus(b), opt(c)), "a*b+c?"},
		{cat(set(span('a', 'c')), b), "[a-c]b"},
		// alt
		{alt(a, b), "a|b"},
		{alt(a, b, c), "a|b|c"},
		{alt(alt(a, b), c), "(a|b)|c"},
		{alt(a, alt(b, c)), "a|(b|c)"},
		{alt(cat(a, b), c), "ab|c"},
		{alt(a, cat(b, c)), "a|bc"},
		{alt(a, empty()), "a|()"},
		{alt(empty(), empty()), "()|()"},
		{alt(star(a), b), "a*|b"},
		{alt(cat(alt(a, b), c), a), "(a|b)c|a"},
		// star, plus, opt
		{star(a), "a*"}, {plus(a), "a+"}, {opt(a), "a?"},
		{star(empty()), "()*"},
		{star(star(a)), "a**"},
		{opt(plus(star(a))), "a*+?"},
		{star(cat(a, b)), "(ab)*"}, {plus(cat(a, b)), "(ab)+"}, {opt(cat(a, b)), "(ab)?"},
		{star(alt(a, b)), "(a|b)*"}, {plus(alt(a, b)), "(a|b)+"}, {opt(alt(a, b)), "(a|b)?"},
		{star(set(span('a', 'c'))), "[a-c]*"},
		{star(plus(cat(a, b))), "(ab)+*"},
		{cat(a, star(alt(b, c))), "a(b|c)*"},
		{stars(a, 39), "a" + strings.Repeat("*", 39)},
	} {
		s, e := regex.Text(x.r)
		if s != x.want || e != api.OK {
			t.Errorf("%q: got %q, %d", x.want, s, e)
		}
		if r, at, e := regex.Parse(s); !regex.Same(r, x.r) || at != 0 || e != api.OK {
			t.Errorf("%q: read as %v, %d, %d", s, r, at, e)
		}
	}
}

// P2.3: a text may be longer than what is read.
func TestTextIsLong(t *testing.T) {
	want := strings.Repeat(`\x00`, 3000)
	if s, e := regex.Text(word(strings.Repeat("\x00", 3000))); s != want || e != api.OK {
		t.Errorf("got %d bytes, %d", len(s), e)
	}
}

// P2.3: of what Check refuses there is no text.
func TestTextRefuses(t *testing.T) {
	a := one('a')
	for _, x := range []struct {
		name string
		r    api.Re
		want api.Errno
	}{
		{"nothing", api.Re{}, api.ErrArg},
		{"kind 8", api.Re{Kind: 8, L: []api.Re{a}}, api.ErrArg},
		{"set without spans", set(), api.ErrArg},
		{"set out of order", set(span('b', 'b'), span('a', 'a')), api.ErrArg},
		{"star of none", api.Re{Kind: api.Star}, api.ErrArg},
		{"the last part", cat(a, a, alt(a)), api.ErrArg},
		{"too deep", stars(a, 40), api.ErrDeep},
		{"too deep, and what may not be", cat(stars(a, 50), api.Re{}), api.ErrArg},
	} {
		if s, e := regex.Text(x.r); s != "" || e != x.want {
			t.Errorf("%s: got %q, %d, want %d", x.name, s, e, x.want)
		}
	}
}

// someRe is an expression that may be, of at most that depth, of a few bytes.
func someRe(r *rand.Rand, depth int) api.Re {
	kind := 1 + r.Intn(7)
	if depth == 1 {
		kind = 1 + r.Intn(2)
	}
	switch kind {
	case api.Empty:
		return empty()
	case api.Set:
		return someSet(r)
	case api.Cat, api.Alt:
		l := make([]api.Re, 2+r.Intn(2))
		for i := range l {
			l[i] = someRe(r, depth-1)
		}
		return api.Re{Kind: kind, L: l}
	}
	return api.Re{Kind: kind, L: []api.Re{someRe(r, depth-1)}}
}

func someSet(r *rand.Rand) api.Re {
	if r.Intn(3) > 0 {
		return one("abc"[r.Intn(3)])
	}
	l := []api.Span{span('a', 'a'+byte(r.Intn(3)))}
	for range r.Intn(4) {
		lo := byte(r.Intn(256))
		l = append(l, span(lo, lo+byte(r.Intn(6))))
	}
	return set(regex.Spans(l)...)
}

// P2.5: Parse of Text is the expression, where it is short enough.
func TestWrittenIsRead(t *testing.T) {
	r := rand.New(rand.NewSource(1))
	for range 3000 {
		x := someRe(r, 6)
		s, e := regex.Text(x)
		if e != api.OK {
			t.Fatalf("%v: %d", x, e)
		}
		if got, at, e := regex.Parse(s); len(s) <= api.MaxText && (!regex.Same(got, x) || at != 0 || e != api.OK) {
			t.Fatalf("%q: got %v, %d, %d, want %v", s, got, at, e, x)
		}
	}
}

// P2.3: all sets of bytes that are side by side.
func TestTextOfSets(t *testing.T) {
	for lo := range 256 {
		for hi := lo; hi < 256; hi++ {
			x := set(span(byte(lo), byte(hi)))
			s, e := regex.Text(x)
			if r, at, e2 := regex.Parse(s); !regex.Same(r, x) || at != 0 || e != api.OK || e2 != api.OK {
				t.Fatalf("%d to %d: written as %q, %d, read as %v, %d, %d", lo, hi, s, e, r, at, e2)
			}
		}
	}
}

// R2: expressions that are handed in stay what they are.
func TestExpressionsAreLeftAlone(t *testing.T) {
	fresh := func() api.Re { return cat(star(alt(one('a'), set(span(1, 3), span(5, 5)))), opt(empty())) }
	x := fresh()
	regex.Check(x)
	regex.Same(x, fresh())
	regex.Text(x)
	regex.Match(x, "a\x02a")
	if !regex.Same(x, fresh()) {
		t.Errorf("got %v", x)
	}
}
