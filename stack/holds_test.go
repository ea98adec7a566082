package stack_test

import (
	"maps"
	"math/rand"
	"slices"
	"testing"

	"quincunx/api"
	"quincunx/check"
	"quincunx/derive"
	"quincunx/stack"
)

// anyCfg is a grammar by numbers of two tokens, of up to so many rules, each of up to 3 alternatives of up to 3 numbers; there may be one.
func anyCfg(r *rand.Rand, rules int) api.Cfg {
	for {
		c := api.Cfg{Tokens: []string{"a", "b"}, Names: []string{"S", "T", "U"}[:1+r.Intn(rules)]}
		for range c.Names {
			var alts [][]int
			for range 1 + r.Intn(3) {
				alts = append(alts, anyList(r, c, 3))
			}
			c.Alts = append(c.Alts, alts)
		}
		if check.Valid(c) == api.OK {
			return c
		}
	}
}

// anyList is up to so many of a grammar's numbers.
func anyList(r *rand.Rand, c api.Cfg, most int) []int {
	var l []int
	for range r.Intn(most + 1) {
		l = append(l, r.Intn(len(c.Names)+len(c.Tokens))-len(c.Names))
	}
	return l
}

// widened is a grammar with more alternatives, so that much of the old one is within it, and at times one less.
func widened(r *rand.Rand, c api.Cfg) api.Cfg {
	for {
		d := api.Cfg{Tokens: c.Tokens, Names: c.Names}
		for _, alts := range c.Alts {
			alts = slices.Clone(alts)
			for range r.Intn(3) {
				alts = slices.Insert(alts, r.Intn(len(alts)+1), anyList(r, c, 3))
			}
			if at := r.Intn(3 * len(alts)); at < len(alts) {
				alts = slices.Delete(alts, at, at+1)
			}
			d.Alts = append(d.Alts, alts)
		}
		if check.Valid(d) == api.OK {
			return d
		}
	}
}

// anyPair is one of numbers of both grammars; often both lists are much the same.
func anyPair(r *rand.Rand, c, d api.Cfg) api.Pair {
	p := api.Pair{A: anyList(r, c, 3), B: anyList(r, d, 3)}
	if r.Intn(2) == 0 {
		p.B = nil
		for _, n := range p.A {
			switch k := r.Intn(6); {
			case k == 0:
				p.B = append(p.B, anyList(r, d, 2)...)
			case n >= -len(d.Names):
				p.B = append(p.B, n)
			}
		}
	}
	return p
}

// maxLong is how many tokens a sentence has that is looked at.
const maxLong = 4

// sentences are those of lists with at most maxLong tokens, as texts, a letter for a token; of all numbers they are told once.
type sentences map[int][]string

func sentencesOf(t testing.TB, c api.Cfg) sentences {
	t.Helper()
	out := sentences{}
	for n := range c.Tokens {
		out[n] = []string{letters([]int{n})}
	}
	for r := range c.Names {
		l, e := derive.Sentences(c, r, maxLong)
		if e != api.OK {
			t.Fatalf("%v: %d", c, e)
		}
		for _, s := range l {
			out[-1-r] = append(out[-1-r], letters(s))
		}
	}
	return out
}

func letters(l []int) string {
	s := ""
	for _, n := range l {
		s += string(rune('a' + n))
	}
	return s
}

// of are those of a list.
func (s sentences) of(l []int) map[string]bool {
	out := map[string]bool{"": true}
	for _, n := range l {
		next := map[string]bool{}
		for ahead := range out {
			for _, behind := range s[n] {
				if len(ahead+behind) <= maxLong {
					next[ahead+behind] = true
				}
			}
		}
		out = next
	}
	return out
}

// hold tells whether each short sentence of A is one of B, for all of some pairs.
func hold(old, new sentences, l ...api.Pair) bool {
	for _, p := range l {
		within := new.of(p.B)
		for s := range old.of(p.A) {
			if !within[s] {
				return false
			}
		}
	}
	return true
}

// P15.3: if all pairs hold on which it hangs that one does, it does. (If they do as far as sentences of some length, so far does it.)
func TestWhatFollows(t *testing.T) {
	r := rand.New(rand.NewSource(1))
	follows, fails := map[int]int{}, map[int]int{}
	for i := range 3000 {
		c := anyCfg(r, 3)
		d := widened(r, c)
		if i%5 == 0 {
			d = anyCfg(r, 3)
		}
		old, new := sentencesOf(t, c), sentencesOf(t, d)
		for range 20 {
			x := api.Proof{P: anyPair(r, c, d), Alt: r.Intn(4)}
			is := hold(old, new, x.P)
			for x.How = range 7 {
				next, told := stack.Next(c, d, x)
				if !told {
					continue
				}
				if !hold(old, new, next...) {
					fails[x.How]++
					continue
				}
				if !is {
					t.Fatalf("%v, %v: %v does not hold, but all of %v do", c, d, x, next)
				}
				if len(old.of(x.P.A)) > 1 || x.How == api.ByEnd {
					follows[x.How]++
				}
			}
		}
	}
	for how := api.ByEnd; how <= api.BySplit; how++ {
		if follows[how] < 500 || how != api.ByEnd && fails[how] < 500 {
			t.Errorf("by %d: only %d and %d", how, follows[how], fails[how])
		}
	}
}

// P15.1: the sentences of all alternatives that Old, or New, puts in a rule's place are just those there were.
func TestAlternativesAreAll(t *testing.T) {
	r := rand.New(rand.NewSource(2))
	for range 3000 {
		c := anyCfg(r, 3)
		d := widened(r, c)
		old, new := sentencesOf(t, c), sentencesOf(t, d)
		for range 10 {
			p := anyPair(r, c, d)
			if l, is := stack.Old(c, p); is {
				all := map[string]bool{}
				for _, q := range l {
					maps.Copy(all, old.of(q.A))
				}
				if want := old.of(p.A); !maps.Equal(all, want) {
					t.Fatalf("%v: %v of %v: %v, want %v", c, l, p, all, want)
				}
			}
			all := map[string]bool{}
			alt := 0
			for q, is := stack.New(d, p, alt); is; q, is = stack.New(d, p, alt) {
				maps.Copy(all, new.of(q.B))
				alt++
			}
			if want := new.of(p.B); alt > 0 && !maps.Equal(all, want) {
				t.Fatalf("%v: %d of %v: %v, want %v", d, alt, p, all, want)
			}
		}
	}
}
