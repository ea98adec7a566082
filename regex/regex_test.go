package regex_test

import (
	"runtime/debug"
	"slices"
	"testing"

	"quincunx/api"
	"quincunx/regex"
)

func span(lo, hi byte) api.Span { return api.Span{Lo: lo, Hi: hi} }

func set(l ...api.Span) api.Re { return api.Re{Kind: api.Set, Set: l} }

func one(c byte) api.Re { return set(span(c, c)) }

func empty() api.Re { return api.Re{Kind: api.Empty} }

func cat(l ...api.Re) api.Re { return api.Re{Kind: api.Cat, L: l} }

func alt(l ...api.Re) api.Re { return api.Re{Kind: api.Alt, L: l} }

func star(r api.Re) api.Re { return api.Re{Kind: api.Star, L: []api.Re{r}} }

func plus(r api.Re) api.Re { return api.Re{Kind: api.Plus, L: []api.Re{r}} }

func opt(r api.Re) api.Re { return api.Re{Kind: api.Opt, L: []api.Re{r}} }

// word is the Cat of the Sets of s's bytes, which are two or more.
func word(s string) api.Re {
	var l []api.Re
	for i := range len(s) {
		l = append(l, one(s[i]))
	}
	return cat(l...)
}

// stars is an expression in so many Stars.
func stars(r api.Re, n int) api.Re {
	for range n {
		r = star(r)
	}
	return r
}

// P2.1: which expressions may be, by their kinds.
func TestCheckKinds(t *testing.T) {
	a, b := one('a'), one('b')
	some := []api.Span{span('a', 'b')}
	for _, x := range []struct {
		name string
		r    api.Re
		want api.Errno
	}{
		{"empty", empty(), api.OK},
		{"set of a byte", a, api.OK},
		{"set of all", set(span(0, 255)), api.OK},
		{"set of two spans", set(span('a', 'c'), span('e', 'e')), api.OK},
		{"set of many spans", set(span(0, 0), span(2, 9), span(11, 253), span(255, 255)), api.OK},
		{"cat of two", cat(a, b), api.OK},
		{"cat of three", cat(a, empty(), b), api.OK},
		{"alt of two", alt(a, b), api.OK},
		{"alt of two that are the same", alt(a, a), api.OK},
		{"star", star(a), api.OK},
		{"plus", plus(a), api.OK},
		{"opt", opt(a), api.OK},
		{"star of a star", star(star(empty())), api.OK},
		{"empty lists that are not nil", cat(api.Re{Kind: api.Empty, Set: []api.Span{}, L: []api.Re{}}, api.Re{Kind: api.Set, Set: some, L: []api.Re{}}, api.Re{Kind: api.Opt, Set: []api.Span{}, L: []api.Re{a}}), api.OK},

		{"nothing", api.Re{}, api.ErrArg},
		{"kind -1", api.Re{Kind: -1}, api.ErrArg},
		{"kind 8", api.Re{Kind: 8, L: []api.Re{a}}, api.ErrArg},
		{"kind 258", api.Re{Kind: 258, Set: some}, api.ErrArg},
		{"empty with Set", api.Re{Kind: api.Empty, Set: some}, api.ErrArg},
		{"empty with L", api.Re{Kind: api.Empty, L: []api.Re{a}}, api.ErrArg},
		{"set without spans", set(), api.ErrArg},
		{"set with L", api.Re{Kind: api.Set, Set: some, L: []api.Re{a}}, api.ErrArg},
		{"set with an empty span", set(span('b', 'a')), api.ErrArg},
		{"set with an empty span, the second", set(span('a', 'a'), span('d', 'c')), api.ErrArg},
		{"set with an empty span, from 255 to 0", set(span(255, 0)), api.ErrArg},
		{"set, the spans touch", set(span('a', 'b'), span('c', 'd')), api.ErrArg},
		{"set, the spans touch at 255", set(span(0, 254), span(255, 255)), api.ErrArg},
		{"set, a span behind 255", set(span(250, 255), span(0, 1)), api.ErrArg},
		{"set, a span behind 254", set(span(250, 254), span(0, 1)), api.ErrArg},
		{"set, the spans overlap", set(span('a', 'c'), span('b', 'f')), api.ErrArg},
		{"set, a span twice", set(span('a', 'a'), span('a', 'a')), api.ErrArg},
		{"set, another order", set(span('d', 'e'), span('a', 'b')), api.ErrArg},
		{"set, the third out of order", set(span('a', 'b'), span('h', 'i'), span('d', 'e')), api.ErrArg},
		{"cat of none", cat(), api.ErrArg},
		{"cat of one", cat(a), api.ErrArg},
		{"cat with Set", api.Re{Kind: api.Cat, Set: some, L: []api.Re{a, b}}, api.ErrArg},
		{"alt of none", alt(), api.ErrArg},
		{"alt of one", alt(a), api.ErrArg},
		{"alt with Set", api.Re{Kind: api.Alt, Set: some, L: []api.Re{a, b}}, api.ErrArg},
		{"star of none", api.Re{Kind: api.Star}, api.ErrArg},
		{"star of two", api.Re{Kind: api.Star, L: []api.Re{a, b}}, api.ErrArg},
		{"star with Set", api.Re{Kind: api.Star, Set: some, L: []api.Re{a}}, api.ErrArg},
		{"plus of none", api.Re{Kind: api.Plus}, api.ErrArg},
		{"plus of two", api.Re{Kind: api.Plus, L: []api.Re{a, b}}, api.ErrArg},
		{"plus with Set", api.Re{Kind: api.Plus, Set: some, L: []api.Re{a}}, api.ErrArg},
		{"opt of none", api.Re{Kind: api.Opt}, api.ErrArg},
		{"opt of two", api.Re{Kind: api.Opt, L: []api.Re{a, b}}, api.ErrArg},
		{"opt with Set", api.Re{Kind: api.Opt, Set: some, L: []api.Re{a}}, api.ErrArg},
		{"first of a cat", cat(api.Re{}, a), api.ErrArg},
		{"last of an alt", alt(a, b, set()), api.ErrArg},
		{"in a star in a cat", cat(a, star(plus(alt(b, cat(a)))), b), api.ErrArg},
	} {
		if got := regex.Check(x.r); got != x.want {
			t.Errorf("%s: got %d, want %d", x.name, got, x.want)
		}
	}
}

// P2.1: how deep an expression may be, and that what may not be is told ahead of that.
func TestCheckDepth(t *testing.T) {
	a := one('a')
	for _, x := range []struct {
		name string
		r    api.Re
		want api.Errno
	}{
		{"40", stars(a, 39), api.OK},
		{"40, an empty one", stars(empty(), 39), api.OK},
		{"40, several in it", stars(cat(a, alt(a, a), a), 37), api.OK},
		{"41", stars(a, 40), api.ErrDeep},
		{"41, an empty one", stars(empty(), 40), api.ErrDeep},
		{"the first part is too deep", cat(stars(a, 39), a), api.ErrDeep},
		{"the last part is too deep", alt(a, a, opt(stars(a, 38))), api.ErrDeep},
		{"what may not be, deeper than 40", stars(api.Re{}, 60), api.ErrArg},
		{"what may not be, behind the deep one", cat(stars(a, 60), set()), api.ErrArg},
		{"what may not be, ahead of the deep one", cat(set(), stars(a, 60)), api.ErrArg},
		{"what may not be, outermost", cat(stars(a, 60)), api.ErrArg},
	} {
		if got := regex.Check(x.r); got != x.want {
			t.Errorf("%s: got %d, want %d", x.name, got, x.want)
		}
	}
}

// P2.1: the same Kind, spans, and parts; of any expressions.
func TestSame(t *testing.T) {
	a, b := one('a'), one('b')
	odd := func(kind int, s byte, l ...api.Re) api.Re {
		return api.Re{Kind: kind, Set: []api.Span{span(s, 0)}, L: l}
	}
	for _, x := range []struct {
		name string
		a, b api.Re
		want bool
	}{
		{"empty", empty(), empty(), true},
		{"nothing", api.Re{}, api.Re{}, true},
		{"sets", set(span(1, 2), span(4, 5)), set(span(1, 2), span(4, 5)), true},
		{"cats", cat(a, star(b)), cat(a, star(b)), true},
		{"nil and empty", api.Re{Kind: api.Empty, Set: []api.Span{}, L: []api.Re{}}, empty(), true},
		{"nil and empty, inner", star(api.Re{Kind: api.Set, Set: []api.Span{span('a', 'a')}, L: []api.Re{}}), star(a), true},
		{"what may not be", odd(9, 3, a, b), odd(9, 3, a, b), true},
		{"deep ones", stars(a, 100), stars(a, 100), true},

		{"another kind", star(a), plus(a), false},
		{"cat and alt", cat(a, b), alt(a, b), false},
		{"empty and nothing", empty(), api.Re{}, false},
		{"another low byte", set(span(1, 5)), set(span(2, 5)), false},
		{"another high byte", set(span(1, 5)), set(span(1, 6)), false},
		{"the same bytes, other spans", set(span(1, 2)), set(span(1, 1), span(2, 2)), false},
		{"one span more", set(span(1, 2)), set(span(1, 2), span(5, 5)), false},
		{"another order of spans", set(span(1, 1), span(5, 5)), set(span(5, 5), span(1, 1)), false},
		{"one part more", cat(a, b), cat(a, b, b), false},
		{"another order", cat(a, b), cat(b, a), false},
		{"another last one", alt(a, a, a), alt(a, a, b), false},
		{"another one, inner", star(cat(a, opt(a))), star(cat(a, opt(b))), false},
		{"the same sets, other cats", cat(cat(a, b), a), cat(a, cat(b, a)), false},
		{"another depth", stars(a, 3), stars(a, 4), false},
		{"odd ones: another Kind", odd(9, 3, a), odd(8, 3, a), false},
		{"odd ones: another Set", odd(9, 3, a), odd(9, 4, a), false},
		{"odd ones: another L", odd(9, 3, a), odd(9, 3, b), false},
		{"deep ones", stars(a, 100), stars(b, 100), false},
	} {
		if got := regex.Same(x.a, x.b); got != x.want {
			t.Errorf("%s: got %v", x.name, got)
		}
		if got := regex.Same(x.b, x.a); got != x.want {
			t.Errorf("%s, the other way round: got %v", x.name, got)
		}
	}
}

// P2.1: the spans in order that have just these bytes.
func TestSpans(t *testing.T) {
	for _, x := range []struct {
		name    string
		l, want []api.Span
	}{
		{"none", nil, nil},
		{"an empty list", []api.Span{}, nil},
		{"one", []api.Span{span(3, 9)}, []api.Span{span(3, 9)}},
		{"one byte", []api.Span{span(3, 3)}, []api.Span{span(3, 3)}},
		{"all", []api.Span{span(0, 255)}, []api.Span{span(0, 255)}},
		{"byte 0", []api.Span{span(0, 0)}, []api.Span{span(0, 0)}},
		{"byte 255", []api.Span{span(255, 255)}, []api.Span{span(255, 255)}},
		{"the ends", []api.Span{span(255, 255), span(0, 0)}, []api.Span{span(0, 0), span(255, 255)}},
		{"of an empty one none", []api.Span{span(9, 3)}, nil},
		{"of an empty one none, 1 and 0", []api.Span{span(1, 0)}, nil},
		{"of an empty one none, beside others", []api.Span{span(4, 4), span(255, 0), span(6, 6), span(8, 7)}, []api.Span{span(4, 4), span(6, 6)}},
		{"they touch", []api.Span{span(1, 3), span(4, 6)}, []api.Span{span(1, 6)}},
		{"they touch, backwards", []api.Span{span(4, 6), span(1, 3)}, []api.Span{span(1, 6)}},
		{"one byte between", []api.Span{span(1, 3), span(5, 6)}, []api.Span{span(1, 3), span(5, 6)}},
		{"they overlap", []api.Span{span(1, 5), span(3, 9)}, []api.Span{span(1, 9)}},
		{"one in the other", []api.Span{span(1, 9), span(3, 4)}, []api.Span{span(1, 9)}},
		{"twice", []api.Span{span(7, 7), span(7, 7)}, []api.Span{span(7, 7)}},
		{"a third one between", []api.Span{span(1, 2), span(4, 5), span(3, 3)}, []api.Span{span(1, 5)}},
		{"around the words' ends", []api.Span{span(63, 64), span(127, 128), span(191, 192)}, []api.Span{span(63, 64), span(127, 128), span(191, 192)}},
		{"up to the end", []api.Span{span(200, 254), span(255, 255), span(0, 10)}, []api.Span{span(0, 10), span(200, 255)}},
	} {
		in := slices.Clone(x.l)
		if got := regex.Spans(x.l); !slices.Equal(got, x.want) {
			t.Errorf("%s: got %v", x.name, got)
		}
		if !slices.Equal(in, x.l) {
			t.Errorf("%s: what was handed in is %v now", x.name, x.l)
		}
	}
	var odd, want []api.Span
	for c := 255; c > 0; c -= 2 {
		odd = append(odd, span(byte(c), byte(c)))
	}
	for c := 1; c < 256; c += 2 {
		want = append(want, span(byte(c), byte(c)))
	}
	if got := regex.Spans(odd); !slices.Equal(got, want) {
		t.Errorf("each second byte: got %v", got)
	}
}

// R2: what is answered is the caller's own, what is handed in stays what it is.
func TestSpansAreNotShared(t *testing.T) {
	in := []api.Span{span(1, 2), span(5, 6)}
	got := regex.Spans(in)
	got[0] = span(9, 9)
	if in[0] != span(1, 2) {
		t.Errorf("what was handed in is %v now", in)
	}
	got = regex.Spans(in)
	in[1] = span(0, 0)
	if !slices.Equal(got, []api.Span{span(1, 2), span(5, 6)}) {
		t.Errorf("what was answered is %v now", got)
	}
}

// R1: the calls end, however deep an expression is: also where a call a level would need more stack than there is.
func TestVeryDeep(t *testing.T) {
	const times = 100_000
	defer debug.SetMaxStack(debug.SetMaxStack(1 << 20))
	a, b, bad := stars(one('a'), times), stars(one('b'), times), stars(set(), times)
	if e := regex.Check(a); e != api.ErrDeep {
		t.Errorf("Check: got %d", e)
	}
	if e := regex.Check(bad); e != api.ErrArg {
		t.Errorf("Check of what may not be: got %d", e)
	}
	if !regex.Same(a, a) || regex.Same(a, b) {
		t.Error("Same")
	}
	if s, e := regex.Text(a); s != "" || e != api.ErrDeep {
		t.Errorf("Text: got %d bytes, %d", len(s), e)
	}
	if s, e := regex.Text(bad); s != "" || e != api.ErrArg {
		t.Errorf("Text of what may not be: got %d bytes, %d", len(s), e)
	}
	if !regex.Match(a, "aaa") || regex.Match(a, "aba") || !regex.Match(a, "") {
		t.Error("Match")
	}
	regex.Match(bad, "a")
}
