package derive_test

import (
	"fmt"
	"math/rand"
	"slices"
	"sort"
	"testing"

	"quincunx/api"
	"quincunx/check"
	"quincunx/derive"
	"quincunx/parse"
	"quincunx/table"
)

// anyCfg is a grammar by numbers, of up to so many rules, tokens, alternatives of each rule, and numbers of each of these; there may be one. Few have no token.
func anyCfg(r *rand.Rand, rules, toks, alts, long int) api.Cfg {
	for {
		c := api.Cfg{Tokens: []string{"a", "b", "c"}[:min(r.Intn(toks*8), 1)+r.Intn(toks)], Names: []string{"S", "T", "U", "V", "W"}[:1+r.Intn(rules)]}
		for range c.Names {
			var l [][]int
			for range 1 + r.Intn(alts) {
				l = append(l, anySeq(r, c, long))
			}
			c.Alts = append(c.Alts, l)
		}
		if check.Valid(c) == api.OK {
			return c
		}
	}
}

// richCfg is a grammar of whose first rule there are many sentences.
func richCfg(r *rand.Rand, rules, toks, alts, long int) api.Cfg {
	for {
		if c := anyCfg(r, rules, toks, alts, long); len(short(c, 4)[0]) > 8 {
			return c
		}
	}
}

// anySeq is up to so many of a grammar's numbers.
func anySeq(r *rand.Rand, c api.Cfg, long int) []int {
	var l []int
	for range r.Intn(long + 1) {
		if len(c.Tokens) > 0 && r.Intn(2) == 0 {
			l = append(l, r.Intn(len(c.Tokens)))
		} else {
			l = append(l, -1-r.Intn(len(c.Names)))
		}
	}
	return l
}

// texts are sentences as texts, a letter for a token.
type texts map[string]bool

// short goes through steps in rounds, till nothing is new, and tells all sentences of each rule with at most so many tokens.
func short(c api.Cfg, long int) []texts {
	all := make([]texts, len(c.Names))
	for r := range all {
		all[r] = texts{}
	}
	for grew := true; grew; {
		grew = false
		for r, alts := range c.Alts {
			was := len(all[r])
			for _, alt := range alts {
				for s := range of(all, alt, long) {
					all[r][s] = true
				}
			}
			grew = grew || len(all[r]) > was
		}
	}
	return all
}

// of are the sentences of seq, if the rules have these.
func of(all []texts, seq []int, long int) texts {
	out := texts{"": true}
	for _, n := range seq {
		next := texts{}
		for s := range out {
			if n >= 0 && len(s) < long {
				next[s+string(rune('a'+n))] = true
				continue
			}
			if n >= 0 {
				continue
			}
			for other := range all[-1-n] {
				if len(s)+len(other) <= long {
					next[s+other] = true
				}
			}
		}
		out = next
	}
	return out
}

// letters writes a letter for a token.
func letters(l []int) string {
	s := ""
	for _, n := range l {
		s += string(rune('a' + n))
	}
	return s
}

// inOrder are texts, the shorter ones first.
func inOrder(l texts) []string {
	var out []string
	for s := range l {
		out = append(out, s)
	}
	sort.Slice(out, func(i, k int) bool {
		if len(out[i]) != len(out[k]) {
			return len(out[i]) < len(out[k])
		}
		return out[i] < out[k]
	})
	return out
}

// P12.2: many grammars, against steps gone through in rounds.
func TestSentencesInRounds(t *testing.T) {
	r := rand.New(rand.NewSource(1))
	many, none := 0, 0
	for i := range 4000 {
		c, long := anyCfg(r, 1+i%5, 3, 1+i%4, 1+i%5), r.Intn(9)
		if i%3 == 0 {
			c, long = richCfg(r, 1+i%5, 3, 3, 2+i%4), 4+r.Intn(3)
		}
		if len(c.Tokens) == 3 {
			long = min(long, 6)
		} else if i%3 == 0 {
			long += 2
		}
		want := short(c, long)
		e := api.OK
		if slices.ContainsFunc(want, func(l texts) bool { return len(l) > 400 }) {
			e = api.ErrLong
			none++
		}
		for k := range c.Names {
			var lines []string
			if e == api.OK {
				lines = inOrder(want[k])
			}
			if len(lines) > 20 {
				many++
			}
			got, is := derive.Sentences(c, k, long)
			var told []string
			for _, s := range got {
				told = append(told, letters(s))
			}
			if is != e || !slices.Equal(told, lines) {
				t.Fatalf("%v, %d, up to %d: got %q, %d, want %q, %d", c, k, long, told, is, lines, e)
			}
		}
	}
	if many < 1000 || none < 20 {
		t.Errorf("only %d and %d", many, none)
	}
}

// lists are all lists of tokens, up to so many.
func lists(c api.Cfg, long int) [][]int {
	all := [][]int{nil}
	for i := 0; i < len(all); i++ {
		for n := 0; n < len(c.Tokens) && len(all[i]) < long; n++ {
			all = append(all, append(slices.Clone(all[i]), n))
		}
	}
	return all
}

// P12.1: all short lists, by many grammars, against steps gone through in rounds.
func TestDerivesInRounds(t *testing.T) {
	r := rand.New(rand.NewSource(2))
	is, not := 0, 0
	for i := range 900 {
		c := anyCfg(r, 1+i%5, 3, 1+i%4, 1+i%4)
		if i%3 == 0 {
			c = richCfg(r, 1+i%5, 3, 3, 2+i%4)
		}
		const long = 5
		rules := short(c, long)
		for _, seq := range [][]int{{-1}, {-len(c.Names)}, anySeq(r, c, 4), anySeq(r, c, 7)} {
			want := of(rules, seq, long)
			for _, toks := range lists(c, long) {
				got := derive.Derives(c, seq, toks)
				if got != want[letters(toks)] {
					t.Fatalf("%v: of %v: %v: got %v", c, seq, toks, got)
				}
				if got {
					is++
				} else {
					not++
				}
			}
		}
	}
	if is < 20000 || not < 50000 {
		t.Errorf("only %d and %d", is, not)
	}
}

// P12.3: a list is among a rule's sentences, just if it is short enough and Derives says so; an alternative's are the rule's.
func TestSentencesAreDerived(t *testing.T) {
	r := rand.New(rand.NewSource(3))
	told := 0
	for i := range 200 {
		c := richCfg(r, 1+i%5, 2, 3, 2+i%4)
		const long = 6
		for k, alts := range c.Alts {
			derived := map[string]bool{}
			for _, toks := range lists(c, long) {
				is := derive.Derives(c, []int{-1 - k}, toks)
				derived[letters(toks)] = is
				if by := slices.ContainsFunc(alts, func(alt []int) bool { return derive.Derives(c, alt, toks) }); by != is {
					t.Fatalf("%v, %d: %v: got %v, by an alternative %v", c, k, toks, is, by)
				}
			}
			for n := range long + 1 {
				l, e := derive.Sentences(c, k, n)
				if e != api.OK {
					continue
				}
				told += len(l)
				among := map[string]bool{}
				for _, s := range l {
					among[letters(s)] = true
				}
				all := 0
				for s, is := range derived {
					if is && len(s) <= n {
						all++
					}
					if among[s] && !is {
						t.Fatalf("%v, %d, up to %d: %q is told", c, k, n, s)
					}
				}
				if len(among) != all || len(l) != all {
					t.Fatalf("%v, %d, up to %d: got %v, want %d", c, k, n, l, all)
				}
			}
		}
	}
	if told < 5000 {
		t.Errorf("only %d", told)
	}
}

// spans tells of each rule from where to where its sentences stand in toks, in rounds.
func spans(c api.Cfg, toks []int) map[[3]int]bool {
	found := map[[3]int]bool{}
	for size := -1; size != len(found); {
		size = len(found)
		for r, alts := range c.Alts {
			for _, alt := range alts {
				for from := range len(toks) + 1 {
					for _, to := range through(found, alt, toks, from) {
						found[[3]int{-1 - r, from, to}] = true
					}
				}
			}
		}
	}
	return found
}

// through are the places where seq may end that begins at a place.
func through(found map[[3]int]bool, seq, toks []int, from int) []int {
	at := []int{from}
	for _, n := range seq {
		var next []int
		for _, i := range at {
			if n >= 0 && i < len(toks) && toks[i] == n {
				next = append(next, i+1)
			}
			for to := i; to <= len(toks) && n < 0; to++ {
				if found[[3]int{n, i, to}] {
					next = append(next, to)
				}
			}
		}
		slices.Sort(next)
		at = slices.Compact(next)
	}
	return at
}

// P12.1: lists that are longer, by many grammars, against spans found in rounds.
func TestLongerLists(t *testing.T) {
	r := rand.New(rand.NewSource(4))
	is := 0
	for i := range 600 {
		c := anyCfg(r, 1+i%4, 2, 1+i%4, 1+i%4)
		long := 20 + r.Intn(20)
		if i%30 == 0 {
			long = 70 + r.Intn(70)
		}
		var toks []int
		for len(toks) < long && len(c.Tokens) > 0 {
			toks = append(toks, r.Intn(len(c.Tokens)))
		}
		found := spans(c, toks)
		for range 30 {
			seq := []int{-1 - r.Intn(len(c.Names))}
			if r.Intn(3) == 0 {
				seq = anySeq(r, c, 3)
			}
			from := r.Intn(len(toks) + 1)
			to := from + r.Intn(len(toks)-from+1)
			want := slices.Contains(through(found, seq, toks, from), to)
			if got := derive.Derives(c, seq, toks[from:to]); got != want {
				t.Fatalf("%v: of %v: %v: got %v", c, seq, toks[from:to], got)
			}
			if want && to-from > 5 {
				is++
			}
		}
	}
	if is < 500 {
		t.Errorf("only %d", is)
	}
}

// P12.1: a table takes just what is derived.
func TestTablesTakeWhatIsDerived(t *testing.T) {
	r := rand.New(rand.NewSource(5))
	is := 0
	for range 5000 {
		c := anyCfg(r, 4, 3, 3, 3)
		l, e := table.Build(c)
		if e != api.OK {
			continue
		}
		for _, toks := range lists(c, 4) {
			_, _, e := parse.Parse(c, l, toks)
			if derive.Derives(c, []int{-1}, toks) != (e == api.OK) {
				t.Fatalf("%v: %v: %d", c, toks, e)
			}
			if e == api.OK {
				is++
			}
		}
	}
	if is < 1000 {
		t.Errorf("only %d", is)
	}
}

// P12.1: the chapter's example, however long.
func TestNested(t *testing.T) {
	c := read(t, "S = a S b | ;", "a b")
	for _, n := range []int{31, 32, 33, 63, 64, 65, 127, 128, 129, 1000, 10000} {
		for _, more := range []int{-1, 0, 1} {
			toks := append(make([]int, n), slices.Repeat([]int{1}, n+more)...)
			if got := derive.Derives(c, []int{-1}, toks); got != (more == 0) {
				t.Errorf("%d a, %d b: got %v", n, n+more, got)
			}
		}
	}
}

// P12.1: of two that stand side by side the second one ends the sooner the later it begins.
func TestEndsThatComeEarlier(t *testing.T) {
	c := read(t, "T = A S C ; A = a A | ; S = a S b | ; C = b c C | ;", "a b c")
	for _, n := range []int{1, 10, 64, 65, 100, 150} {
		for _, bs := range []int{0, 1, n / 2, n - 1, n, n + 1, n + 2, n + 70} {
			toks := append(make([]int, n), slices.Repeat([]int{1}, bs)...)
			if got := derive.Derives(c, []int{-1}, toks); got != (bs <= n) {
				t.Errorf("%d a, %d b: got %v", n, bs, got)
			}
			if got := derive.Derives(c, []int{-1}, append(toks, 2, 1, 2)); got != (bs > 0 && bs <= n+1) {
				t.Errorf("%d a, %d b, c b c: got %v", n, bs, got)
			}
		}
	}
}

// P12.1: many ways and long lists; what is a sentence is told by how many tokens there are.
func TestLongLists(t *testing.T) {
	any := func(n int) bool { return true }
	for _, x := range []struct {
		s    string
		most int
		is   func(n int) bool
	}{
		{"S = a S | ;", 5000, any},
		{"S = S a | ;", 1000, any},
		{"S = S S | a | ;", 1000, any},
		{"S = a S a | ;", 2000, func(n int) bool { return n%2 == 0 }},
		{"S = S a a a | a ;", 1000, func(n int) bool { return n%3 == 1 }},
		{"S = S S S | a ;", 300, func(n int) bool { return n%2 == 1 }},
		{"S = S T | U ; T = a S a U | a a a a a U U ; U = a U | U T | a a ;", 100, func(n int) bool { return n >= 2 }},
		{"S = T T T ; T = a T a a a a | a a | ;", 300, func(n int) bool { return fits(n, 3) }},
	} {
		c := read(t, x.s, "a b")
		for n := x.most - 7; n <= x.most; n += 3 + n%2 {
			if got := derive.Derives(c, []int{-1}, make([]int, n)); got != x.is(n) {
				t.Errorf("%q: of %d: got %v", x.s, n, got)
			}
			for _, at := range []int{0, n / 2, n - 1} {
				toks := make([]int, n)
				toks[at] = 1
				if derive.Derives(c, []int{-1}, toks) {
					t.Errorf("%q: of %d, with a b at %d: it is said to be a sentence", x.s, n, at)
				}
			}
		}
	}
}

// fits tells whether n is a sum of so many numbers each of which is five times some number, or two more.
func fits(n, parts int) bool {
	return slices.ContainsFunc([]int{0, 2, 4, 6}[:parts+1], func(k int) bool { return n >= k && (n-k)%5 == 0 })
}

// R5: the same is answered again, whatever was asked ahead.
func TestTheSameAgain(t *testing.T) {
	r := rand.New(rand.NewSource(6))
	for range 200 {
		c := anyCfg(r, 4, 2, 3, 3)
		l, e := derive.Sentences(c, 0, 6)
		for range 5 {
			again, other := derive.Sentences(c, 0, 6)
			if other != e || fmt.Sprint(again) != fmt.Sprint(l) {
				t.Fatalf("%v: got %v, %d, and then %v, %d", c, l, e, again, other)
			}
		}
	}
}
