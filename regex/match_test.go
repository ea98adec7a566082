package regex_test

import (
	"math/rand"
	"strings"
	"testing"

	"quincunx/api"
	"quincunx/regex"
)

// P2.4: what expressions match.
func TestMatch(t *testing.T) {
	for _, x := range []struct {
		re      string
		yes, no []string
	}{
		{"()", []string{""}, []string{"a", "()"}},
		{"a", []string{"a"}, []string{"", "b", "aa", "A"}},
		{".", []string{"a", "\x00", "\xff", "\r"}, []string{"", "\n", "ab"}},
		{"[a-c]", []string{"a", "b", "c"}, []string{"", "`", "d", "ab"}},
		{"[^a-c]", []string{"`", "d", "\x00", "\xff", "\n"}, []string{"", "a", "b", "c"}},
		{"[\x00-\xff]", []string{"\x00", "\n", "\x7f", "\x80", "\xff"}, []string{"", "ab"}},
		{`[\x00\x3f\x40\x7f\x80\xbf\xc0\xff]`, []string{"\x00", "\x3f", "\x40", "\x7f", "\x80", "\xbf", "\xc0", "\xff"}, []string{"\x01", "\x3e", "\x41", "\x7e", "\x81", "\xbe", "\xc1", "\xfe"}},
		{"ab", []string{"ab"}, []string{"", "a", "b", "ba", "abb", "aab"}},
		{"abc", []string{"abc"}, []string{"ab", "bc", "ac", "abcc"}},
		{"a()b", []string{"ab"}, []string{"a", "b"}},
		{"()()", []string{""}, []string{"a"}},
		{"a|b", []string{"a", "b"}, []string{"", "ab", "c"}},
		{"a|b|c", []string{"a", "b", "c"}, []string{"", "ab", "bc"}},
		{"a|ab|abc", []string{"a", "ab", "abc"}, []string{"", "b", "bc"}},
		{"a|", []string{"", "a"}, []string{"aa"}},
		{"|a", []string{"", "a"}, []string{"aa"}},
		{"a*", []string{"", "a", "aaaa"}, []string{"b", "ab", "ba", "aaba"}},
		{"a+", []string{"a", "aa", "aaaa"}, []string{"", "b", "ab", "ba"}},
		{"a?", []string{"", "a"}, []string{"aa", "b"}},
		{"(ab)*", []string{"", "ab", "abab"}, []string{"a", "aba", "ba"}},
		{"(ab)+", []string{"ab", "abab"}, []string{"", "a", "aba"}},
		{"(ab)?", []string{"", "ab"}, []string{"a", "abab"}},
		{"(a|b)*", []string{"", "a", "b", "abba"}, []string{"c", "abc"}},
		{"(a?)+", []string{"", "a", "aa"}, []string{"b"}},
		{"(a+)?", []string{"", "a", "aa"}, []string{"b"}},
		{"(a*)+b", []string{"b", "ab", "aab"}, []string{"", "a", "abb"}},
		{"()*", []string{""}, []string{"a"}},
		{"()+", []string{""}, []string{"a"}},
		{"(()|a)+", []string{"", "a", "aa"}, []string{"b"}},
		{"(a*b*)*", []string{"", "a", "ba", "abab"}, []string{"c"}},
		{"(a+b+)+", []string{"ab", "aabbab"}, []string{"", "a", "ba", "aba"}},
		{"(ab+)+c", []string{"abc", "abbabc"}, []string{"c", "ac", "abac"}},
		{"a(b|c)*", []string{"a", "abcb", "acc"}, []string{"b", "", "abcd"}},
		{"(a|ab)(c|bcd)", []string{"ac", "abc", "abcd", "abbcd"}, []string{"ab", "acd", "abcbcd"}},
		{"a*a", []string{"a", "aa"}, []string{""}},
		{"a*ab?", []string{"a", "aab", "ab"}, []string{"", "b"}},
		{"(a|b)*abb", []string{"abb", "aabb", "babb", "ababb"}, []string{"", "ab", "abba"}},
		{`\**`, []string{"", "*", "***"}, []string{"a", "\\"}},
		{"é", []string{"é"}, []string{"\xc3", "e"}},
	} {
		r, _, e := regex.Parse(x.re)
		if e != api.OK {
			t.Fatalf("%q: %d", x.re, e)
		}
		for _, s := range x.yes {
			if !regex.Match(r, s) {
				t.Errorf("%q does not match %q", x.re, s)
			}
		}
		for _, s := range x.no {
			if regex.Match(r, s) {
				t.Errorf("%q matches %q", x.re, s)
			}
		}
	}
}

// ends are the places up to which r matches from a place on: what the chapter says, word by word.
func ends(r api.Re, s string, from int) map[int]bool {
	out := map[int]bool{}
	switch r.Kind {
	case api.Empty:
		out[from] = true
	case api.Set:
		for _, x := range r.Set {
			if from < len(s) && x.Lo <= s[from] && s[from] <= x.Hi {
				out[from+1] = true
			}
		}
	case api.Cat:
		out[from] = true
		for _, x := range r.L {
			out = endsOfAll(x, s, out)
		}
	case api.Alt:
		for _, x := range r.L {
			for n := range ends(x, s, from) {
				out[n] = true
			}
		}
	case api.Opt:
		out = ends(r.L[0], s, from)
		out[from] = true
	default:
		next := map[int]bool{from: true}
		if r.Kind == api.Plus {
			next = ends(r.L[0], s, from)
		}
		for len(next) > len(out) {
			out = next
			next = endsOfAll(r.L[0], s, out)
			for n := range out {
				next[n] = true
			}
		}
	}
	return out
}

func endsOfAll(r api.Re, s string, from map[int]bool) map[int]bool {
	out := map[int]bool{}
	for n := range from {
		for m := range ends(r, s, n) {
			out[m] = true
		}
	}
	return out
}

// shortTexts are all texts of the bytes a and b of at most that length, and some others.
func shortTexts(long int) []string {
	out := []string{""}
	for i := 0; i < len(out); i++ {
		if len(out[i]) < long {
			out = append(out, out[i]+"a", out[i]+"b")
		}
	}
	return append(out, "c", "abc", "cab", "\x00", "a\xff", "acbcacb", "aaaabbbbaaaa")
}

// P2.4: many expressions, against what the chapter says word by word.
func TestMatchOfMany(t *testing.T) {
	r := rand.New(rand.NewSource(2))
	texts := shortTexts(5)
	yes := 0
	for range 1500 {
		x := someRe(r, 5)
		for _, s := range texts {
			want := ends(x, s, 0)[len(s)]
			if got := regex.Match(x, s); got != want {
				t.Fatalf("%v, %q: got %v", x, s, got)
			}
			if want {
				yes++
			}
		}
	}
	if yes < 5000 {
		t.Errorf("only %d matches: the expressions tell too little", yes)
	}
}

// P2.4: of expressions that may be, deeper than Check wants them too.
func TestMatchDeep(t *testing.T) {
	x := one('a')
	for i := range 300 {
		switch i % 4 {
		case 0:
			x = plus(x)
		case 1:
			x = alt(x, one('b'))
		case 2:
			x = opt(x)
		case 3:
			x = cat(one('c'), x)
		}
	}
	c := strings.Repeat("c", 75)
	for s, want := range map[string]bool{c + "a": true, c + "b": true, c[1:] + "b": true, c: true, "c": true, c + "ab": false, c + "cb": true, c + "bb": false, "": false, "b": false} {
		if got := regex.Match(x, s); got != want {
			t.Errorf("%q: got %v", s, got)
		}
	}
}

// P2.4: texts that one who tries one way behind the other is endlessly long at.
func TestMatchHard(t *testing.T) {
	a, b := one('a'), one('b')
	var many []api.Re
	for range 500 {
		many = append(many, opt(a))
	}
	for range 500 {
		many = append(many, a)
	}
	in := a
	for range 30 {
		in = plus(star(alt(in, b)))
	}
	for _, x := range []struct {
		name    string
		r       api.Re
		yes, no string
	}{
		{"a?a?..aa..", cat(many...), strings.Repeat("a", 700), strings.Repeat("a", 499)},
		{"stars of stars", cat(stars(a, 20), b), strings.Repeat("a", 3000) + "b", strings.Repeat("a", 3000)},
		{"stars of pluses", cat(in, b), strings.Repeat("ab", 3000), strings.Repeat("ab", 3000) + "a"},
		{"a long text", star(alt(a, b, word("ab"))), strings.Repeat("ab", 1<<18), strings.Repeat("ab", 1<<18) + "c"},
	} {
		if !regex.Match(x.r, x.yes) || regex.Match(x.r, x.no) {
			t.Errorf("%s", x.name)
		}
	}
}

// P2.4: of what may not be nothing is said, but the calls end.
func TestMatchOfOthers(t *testing.T) {
	a := one('a')
	for _, r := range []api.Re{{}, {Kind: 8, L: []api.Re{a}}, {Kind: -3}, set(), set(span('b', 'a')), cat(), alt(), {Kind: api.Star}, {Kind: api.Plus}, {Kind: api.Opt}, star(api.Re{}), cat(a, api.Re{Kind: api.Plus}), {Kind: api.Set, L: []api.Re{a, a}}, {Kind: api.Empty, Set: a.Set, L: []api.Re{a}}, {Kind: api.Opt, L: []api.Re{a, {}}}} {
		for _, s := range []string{"", "a", "aaa"} {
			regex.Match(r, s)
		}
	}
}

// P2.5: an Alt matches what one of its parts does, a Star of a Star what the Star does.
func TestMatchFollows(t *testing.T) {
	r := rand.New(rand.NewSource(3))
	texts := shortTexts(4)
	for range 400 {
		x, y := someRe(r, 4), someRe(r, 4)
		for _, s := range texts {
			if regex.Match(alt(x, y), s) != (regex.Match(x, s) || regex.Match(y, s)) {
				t.Fatalf("alt of %v, %v: %q", x, y, s)
			}
			if regex.Match(star(star(x)), s) != regex.Match(star(x), s) {
				t.Fatalf("star of star of %v: %q", x, s)
			}
			if regex.Match(opt(plus(x)), s) != regex.Match(star(x), s) {
				t.Fatalf("opt of plus of %v: %q", x, s)
			}
			if regex.Match(cat(x, star(x)), s) != regex.Match(plus(x), s) {
				t.Fatalf("plus of %v: %q", x, s)
			}
		}
	}
}
