package regex_test

import (
	"strings"
	"testing"

	"quincunx/api"
	"quincunx/regex"
)

// P2.2: texts and their expressions.
func TestParse(t *testing.T) {
	a, b, c := one('a'), one('b'), one('c')
	for _, x := range []struct {
		s    string
		want api.Re
	}{
		// alternatives
		{"", empty()},
		{"a", a},
		{"|", alt(empty(), empty())},
		{"a|", alt(a, empty())},
		{"|a", alt(empty(), a)},
		{"a|b", alt(a, b)},
		{"a|b|c", alt(a, b, c)},
		{"a||b", alt(a, empty(), b)},
		{"(a|b)|c", alt(alt(a, b), c)},
		{"a|(b|c)", alt(a, alt(b, c))},
		{"ab|c", alt(cat(a, b), c)},
		{"a|bc", alt(a, cat(b, c))},
		// pieces
		{"ab", cat(a, b)},
		{"abc", cat(a, b, c)},
		{"(ab)c", cat(cat(a, b), c)},
		{"a(bc)", cat(a, cat(b, c))},
		{"a*", star(a)},
		{"a+", plus(a)},
		{"a?", opt(a)},
		{"a**", star(star(a))},
		{"a*+?", opt(plus(star(a)))},
		{"a?+*", star(plus(opt(a)))},
		{"ab*", cat(a, star(b))},
		{"a*b", cat(star(a), b)},
		{"(ab)*", star(cat(a, b))},
		{"a(b|c)*", cat(a, star(alt(b, c)))},
		{"a|b*", alt(a, star(b))},
		// atoms
		{"()", empty()},
		{"(())", empty()},
		{"(a)", a},
		{"((a))", a},
		{"()a", cat(empty(), a)},
		{"()()", cat(empty(), empty())},
		{"()*", star(empty())},
		{"(|)", alt(empty(), empty())},
		{"(a|)b", cat(alt(a, empty()), b)},
		{".", set(span(0, 9), span(11, 255))},
		{".*", star(set(span(0, 9), span(11, 255)))},
		{"^", one('^')},
		{"-", one('-')},
		{"a-b", cat(a, one('-'), b)},
		{"^a", cat(one('^'), a)},
		{"-*", star(one('-'))},
		{" ", one(' ')},
		{"\n", one('\n')},
		{"\x00", one(0)},
		{"\xff", one(255)},
		{"é", word("é")},
		{"é*", cat(one(0xc3), star(one(0xa9)))},
		{"{}", word("{}")},
		{"$/\"'", word("$/\"'")},
		// sets
		{"[a]", a},
		{"[ab]", set(span('a', 'b'))},
		{"[ba]", set(span('a', 'b'))},
		{"[ac]", set(span('a', 'a'), span('c', 'c'))},
		{"[aa]", a},
		{"[a-c]", set(span('a', 'c'))},
		{"[a-a]", a},
		{"[a-cb-e]", set(span('a', 'e'))},
		{"[x-za-c]", set(span('a', 'c'), span('x', 'z'))},
		{"[a-cx]", set(span('a', 'c'), span('x', 'x'))},
		{"[^a]", set(span(0, 'a'-1), span('b', 255))},
		{"[^a-c]", set(span(0, 'a'-1), span('d', 255))},
		{"[^ac]", set(span(0, 'a'-1), b.Set[0], span('d', 255))},
		{`[^\x00-\xfe]`, one(255)},
		{`[^\x01-\xff]`, one(0)},
		{`[^\x00-ac-\xff]`, b},
		{`[\x00-\xff]`, set(span(0, 255))},
		{"[\x00-\xff]", set(span(0, 255))},
		{"[a\n]", set(span('\n', '\n'), span('a', 'a'))},
		{`[\n\t\r]`, set(span(9, 10), span(13, 13))},
		{`[\^a]`, set(span('^', '^'), span('a', 'a'))},
		{`[\-a]`, set(span('-', '-'), span('a', 'a'))},
		{`[a\-c]`, set(span('-', '-'), span('a', 'a'), span('c', 'c'))},
		{`[\]]`, one(']')},
		{`[\+-\-]`, set(span('+', '-'))},
		{`[\*-\?]`, set(span('*', '?'))},
		{`[\x61-\x63]`, set(span('a', 'c'))},
		{`[a-\x63]*`, star(set(span('a', 'c')))},
		// bytes told by escapes
		{`\n`, one(10)},
		{`\t`, one(9)},
		{`\r`, one(13)},
		{`\x41`, one('A')},
		{`\x4a`, one('J')},
		{`\x4A`, one('J')},
		{`\xfF`, one(255)},
		{`\x00`, one(0)},
		{`\x0A`, one(10)},
		{`\x412`, cat(one('A'), one('2'))},
		{`\\`, one('\\')},
		{`\|\*\+\?\(\)\[\]\.\^\-`, word("|*+?()[].^-")},
		{`\**`, star(one('*'))},
		{`[\\\|\*\+\?\(\)\[\]\.\^\-]`, set(span('(', '+'), span('-', '.'), span('?', '?'), span('[', '^'), span('|', '|'))},
	} {
		r, at, e := regex.Parse(x.s)
		if !regex.Same(r, x.want) || at != 0 || e != api.OK {
			t.Errorf("%q: got %v, %d, %d", x.s, r, at, e)
		}
		if e := regex.Check(r); e != api.OK {
			t.Errorf("%q: Check: got %d", x.s, e)
		}
	}
}

// P2.2: each byte alone, as itself or behind a \, in [ ] and outside.
func TestParseBytes(t *testing.T) {
	told := map[byte]byte{'n': '\n', 't': '\t', 'r': '\r'}
	for i := range 256 {
		c := byte(i)
		special := strings.IndexByte(`\|*+?()[].^-`, c) >= 0
		if r, _, e := regex.Parse(string([]byte{'a', c})); !special && (!regex.Same(r, cat(one('a'), one(c))) || e != api.OK) {
			t.Errorf("%d: got %v, %d", c, r, e)
		}
		r, at, e := regex.Parse(string([]byte{'[', c, ']'}))
		switch {
		case !special && (!regex.Same(r, one(c)) || at != 0 || e != api.OK):
			t.Errorf("%d in []: got %v, %d, %d", c, r, at, e)
		case special && e != api.ErrRegex:
			t.Errorf("%d in []: got %v, %d, %d", c, r, at, e)
		}
		want, is := told[c]
		if special {
			want, is = c, true
		}
		for _, x := range [][2]string{{"", ""}, {"[", "]"}} {
			r, at, e = regex.Parse(x[0] + string([]byte{'\\', c}) + x[1])
			place := len(x[0]) + 1
			switch {
			case is && (!regex.Same(r, one(want)) || at != 0 || e != api.OK):
				t.Errorf("%s\\ and %d: got %v, %d, %d", x[0], c, r, at, e)
			case !is && c != 'x' && (!regex.Same(r, api.Re{}) || at != place || e != api.ErrRegex):
				t.Errorf("%s\\ and %d: got %v, %d, %d", x[0], c, r, at, e)
			}
		}
	}
}

// P2.2: the digits behind \x.
func TestParseDigits(t *testing.T) {
	for i := range 256 {
		c := byte(i)
		n := strings.IndexByte("0123456789abcdef", c)
		if 'A' <= c && c <= 'F' {
			n = int(c-'A') + 10
		}
		for _, x := range []struct {
			s     string
			value int
			place int
		}{{"\\x" + string([]byte{c}) + "5", n<<4 | 5, 2}, {"\\x5" + string([]byte{c}), 5<<4 | n, 3}} {
			r, at, e := regex.Parse(x.s)
			switch {
			case n >= 0 && (!regex.Same(r, one(byte(x.value))) || at != 0 || e != api.OK):
				t.Errorf("%q: got %v, %d, %d", x.s, r, at, e)
			case n < 0 && (!regex.Same(r, api.Re{}) || at != x.place || e != api.ErrRegex):
				t.Errorf("%q: got %v, %d, %d", x.s, r, at, e)
			}
		}
	}
}

// P2.2: the first byte that does not go; and nothing else beside it.
func TestParseRefuses(t *testing.T) {
	for _, x := range []struct {
		s  string
		at int
	}{
		{"*", 0}, {"+", 0}, {"?", 0}, {"]", 0}, {")", 0},
		{"a|*", 2}, {"(*)", 1}, {"(|?)", 2}, {"a*|+", 3},
		{"a]", 1}, {"a)", 1}, {"(a))", 3}, {"a|)b", 2}, {"()*)", 3}, {"a)(", 1},
		// something is wanting
		{"(", 1}, {"(a", 2}, {"(a|", 3}, {"a(b(c)", 6}, {"((", 2}, {"(a*", 3},
		{"[", 1}, {"[a", 2}, {"[a-", 3}, {"[a-c", 4}, {"[^", 2}, {"[^a", 3}, {"x[ab", 4}, {"([a", 3},
		{`\`, 1}, {`a\`, 2}, {`\x`, 2}, {`\x4`, 3}, {`[\`, 2}, {`[\x`, 3}, {`[\x4`, 4}, {`[\x41`, 5}, {`[a-\`, 4}, {`[a-\x`, 5}, {`[a-\x7`, 6},
		// in [ ]
		{"[]", 1}, {"[]a]", 1}, {"[^]", 2}, {"[^]a]", 2}, {"[-a]", 1}, {"[a-]", 3}, {"[a-b-c]", 4}, {"[a--]", 3}, {"[--a]", 1}, {"[^-a]", 2},
		{"[^^]", 2}, {"[a^]", 2}, {"[a[]", 2}, {"[[a]", 1}, {"[.]", 1}, {"[a*]", 2}, {"[a|b]", 2}, {"[(]", 1}, {"[a)]", 2}, {"[+]", 1}, {"[a?]", 2},
		{"[a]]", 3}, {"[a-(]", 3}, {"[a-.]", 3}, {"[A-^]", 3}, {`[\+--]`, 4}, {"[ -.]", 3}, {"[A-]", 3}, {"[A-[]", 3},
		// a lesser byte
		{"[b-a]", 3}, {"[b-a", 3}, {"[b-aq", 3}, {"x[yb-a]", 5}, {"[^b-a]", 4}, {"[b-\x00]", 3}, {"[\xff-\xfe]", 3}, {`[\xff-a]`, 6}, {`[b-\x61]`, 3}, {`[b-\n]`, 3}, {`[b-\-]`, 3},
		// no byte left
		{`[^\x00-\xff]`, 11}, {"[^\x00-\xff]", 5}, {`a[^\x00-\x7f\x80-\xff]*`, 21}, {`[^\x00-\xff`, 11}, {`[^\x00-\xff-]`, 11}, {"[^b-\xff\x00-a]", 8},
		// escapes
		{`\a`, 1}, {`\0`, 1}, {`\N`, 1}, {`\X41`, 1}, {`ab\ `, 3}, {"\\\n", 1}, {`[\q]`, 2}, {`[a-\q]`, 4}, {`[\d]`, 2},
		{`\xg0`, 2}, {`\x0g`, 3}, {`\xG0`, 2}, {`\x-1`, 2}, {`\x1]`, 3}, {`\x1`, 3}, {`[\x]`, 3}, {`[\x1]`, 4}, {`[a-\x6]`, 6}, {`\x 4`, 2},
		// the first of several
		{"a)*[", 1}, {"[b-a-]", 3}, {`\q)`, 1}, {`(\q`, 2}, {"[]", 1}, {"*(", 0},
	} {
		r, at, e := regex.Parse(x.s)
		if !regex.Same(r, api.Re{}) || at != x.at || e != api.ErrRegex {
			t.Errorf("%q: got %v, %d, %d, want %d", x.s, r, at, e, x.at)
		}
	}
}

// P2.2: how long a text may be; ahead of all else.
func TestParseLong(t *testing.T) {
	long := strings.Repeat("a", api.MaxText)
	if r, at, e := regex.Parse(long); !regex.Same(r, word(long)) || at != 0 || e != api.OK {
		t.Errorf("4096 bytes: got %d parts, %d, %d", len(r.L), at, e)
	}
	for _, s := range []string{long + "a", "*" + long, strings.Repeat("a", 1<<20), strings.Repeat("(", 5000), long + "*"} {
		if r, at, e := regex.Parse(s); !regex.Same(r, api.Re{}) || at != 0 || e != api.ErrLong {
			t.Errorf("%q and on, %d bytes: got %v, %d, %d", s[:3], len(s), r, at, e)
		}
	}
	if _, at, e := regex.Parse(long[1:] + "("); at != api.MaxText || e != api.ErrRegex {
		t.Errorf("4096 bytes, the last one opens: got %d, %d", at, e)
	}
	if _, at, e := regex.Parse(strings.Repeat("(", api.MaxText)); at != api.MaxText || e != api.ErrRegex {
		t.Errorf("4096 open: got %d, %d", at, e)
	}
}

// P2.2: how deep an expression may be, of a text that goes.
func TestParseDeep(t *testing.T) {
	a := one('a')
	half := api.MaxText / 2
	for _, x := range []struct {
		name string
		s    string
		r    api.Re
		at   int
		e    api.Errno
	}{
		{"39 stars", "a" + strings.Repeat("*", 39), stars(a, 39), 0, api.OK},
		{"40 stars", "a" + strings.Repeat("*", 40), api.Re{}, 0, api.ErrDeep},
		{"4095 stars", "a" + strings.Repeat("*", 4095), api.Re{}, 0, api.ErrDeep},
		{"40 stars of none", "()" + strings.Repeat("*", 40), api.Re{}, 0, api.ErrDeep},
		{"40 deep, in a part", "b" + strings.Repeat("(a", 40) + strings.Repeat(")", 40), api.Re{}, 0, api.ErrDeep},
		{"38 stars in two lists", "b|c(a" + strings.Repeat("*", 37) + ")", alt(one('b'), cat(one('c'), stars(a, 37))), 0, api.OK},
		{"39 stars in two lists", "b|c(a" + strings.Repeat("*", 38) + ")", api.Re{}, 0, api.ErrDeep},
		{"brackets alone are not deep", strings.Repeat("(", half-1) + "a" + strings.Repeat(")", half-1), a, 0, api.OK},
		{"a byte that does not go, behind what is deep", "a" + strings.Repeat("*", 50) + ")", api.Re{}, 51, api.ErrRegex},
		{"something wanting, behind what is deep", "(a" + strings.Repeat("*", 50), api.Re{}, 52, api.ErrRegex},
	} {
		r, at, e := regex.Parse(x.s)
		if !regex.Same(r, x.r) || at != x.at || e != x.e {
			t.Errorf("%s: got %v, %d, %d", x.name, r, at, e)
		}
	}
}

// P2.2: what the place says, of all short texts of some bytes: all ahead of it goes, and nothing behind it mends it.
func TestParsePlaces(t *testing.T) {
	const from = `ab\|*()[]^-x1`
	// ahead is where the text without its last byte was refused, -1: nowhere.
	var try func(s string, ahead int)
	try = func(s string, ahead int) {
		_, at, e := regex.Parse(s)
		switch {
		case e == api.OK:
			at = -1
		case e != api.ErrRegex || at < 0 || at > len(s):
			t.Fatalf("%q: got %d, %d", s, at, e)
		default:
			if _, n, e := regex.Parse(s[:at]); e != api.OK && n != at {
				t.Fatalf("%q: got %d, but what is ahead of it is refused at %d", s, at, n)
			}
		}
		if len(s) > 0 && ahead >= 0 && ahead < len(s)-1 && at != ahead {
			t.Fatalf("%q: got %d, without its last byte %d", s, at, ahead)
		}
		for i := range len(from) {
			if len(s) < 5 {
				try(s+from[i:i+1], at)
			}
		}
	}
	try("", -1)
}

// R2: an answer's lists share nothing.
func TestParsedIsNotShared(t *testing.T) {
	const s = "a(a|a)*a.."
	r, _, _ := regex.Parse(s)
	r.L[0].Set[0] = span(1, 2)
	r.L[4].Set[0] = span(3, 4)
	r.L[1].L[0].L = append(r.L[1].L[0].L[:1], one('q'))
	if all := set(span(0, 9), span(11, 255)); !regex.Same(r.L[2], one('a')) || !regex.Same(r.L[3], all) {
		t.Errorf("got %v", r)
	}
	again, _, _ := regex.Parse(s)
	if want := cat(one('a'), star(alt(one('a'), one('a'))), one('a')); !regex.Same(cat(again.L[:3]...), want) {
		t.Errorf("read again: got %v", again)
	}
}

func FuzzParse(f *testing.F) {
	for _, s := range []string{"", "a(b|c)*", "[^a-z]", `\x41\n`, "a|", "*", "[b-a]", "((.)+)?", `[^\x00-\xff]`} {
		f.Add(s)
	}
	f.Fuzz(func(t *testing.T, s string) {
		r, at, e := regex.Parse(s)
		if e != api.OK {
			if !regex.Same(r, api.Re{}) || at < 0 || at > len(s) {
				t.Fatalf("got %v, %d, %d", r, at, e)
			}
			return
		}
		text, e := regex.Text(r)
		if at != 0 || e != api.OK {
			t.Fatalf("got %v, %d; written: %d", r, at, e)
		}
		if again, _, e := regex.Parse(text); len(text) <= api.MaxText && (!regex.Same(again, r) || e != api.OK) {
			t.Fatalf("got %v, written as %q, read as %v, %d", r, text, again, e)
		}
	})
}
