package sets_test

import (
	"fmt"
	"math"
	"math/rand"
	"slices"
	"testing"

	"quincunx/api"
	"quincunx/check"
	"quincunx/sets"
)

// anyCfg is a grammar by numbers, of up to so many rules, alternatives of each, and numbers of each of these; there may be one.
func anyCfg(r *rand.Rand, rules, alts, long int) api.Cfg {
	for {
		c := api.Cfg{Tokens: []string{"a", "b", "c", "d"}[:r.Intn(5)], Names: []string{"S", "T", "U", "V", "W"}[:1+r.Intn(rules)]}
		for range c.Names {
			var l [][]int
			for range 1 + r.Intn(alts) {
				l = append(l, anySeq(r, c, long))
			}
			c.Alts = append(c.Alts, l)
		}
		if check.Valid(c) == api.OK {
			return c
		}
	}
}

// anySeq is up to so many of a grammar's numbers.
func anySeq(r *rand.Rand, c api.Cfg, long int) []int {
	var l []int
	for range r.Intn(long + 1) {
		l = append(l, r.Intn(len(c.Names)+len(c.Tokens))-len(c.Names))
	}
	return l
}

// pair is two numbers.
type pair struct{ x, y int }

// words reckons by the chapter's words alone, in rounds till nothing is new.
type words struct {
	c      api.Cfg
	empty  map[int]bool  // numbers from which the empty sentence comes
	begins map[pair]bool // something that comes from x begins with y
	meets  map[pair]bool // x stands right ahead of y in something that comes from the first rule; the end, too
}

func wordsOf(c api.Cfg) words {
	w := words{c, map[int]bool{}, map[pair]bool{}, map[pair]bool{{-1, len(c.Tokens)}: true}}
	for range c.Names {
		w.each(func(n int, alt []int) { w.empty[n] = w.empty[n] || w.allEmpty(alt) })
	}
	var ends []pair // something that comes from x ends with y, by one step
	w.each(func(n int, alt []int) {
		for i, x := range alt {
			if w.allEmpty(alt[:i]) {
				w.begins[pair{n, x}] = true
			}
			if w.allEmpty(alt[i+1:]) {
				ends = append(ends, pair{n, x})
			}
			for j := i + 1; j < len(alt) && w.allEmpty(alt[i+1:j]); j++ {
				w.meets[pair{x, alt[j]}] = true
			}
		}
	})
	for n := range len(c.Tokens) {
		w.begins[pair{n, n}] = true
	}
	untilStill(w.begins, func(p pair, add func(pair)) {
		for q := range w.begins {
			if q.x == p.y {
				add(pair{p.x, q.y})
			}
		}
	})
	untilStill(w.meets, func(p pair, add func(pair)) {
		for _, q := range ends {
			if q.x == p.x {
				add(pair{q.y, p.y})
			}
		}
		for q := range w.begins {
			if q.x == p.y {
				add(pair{p.x, q.y})
			}
		}
	})
	return w
}

// untilStill adds what comes of each pair, till nothing more does.
func untilStill(l map[pair]bool, more func(p pair, add func(pair))) {
	for size := -1; size != len(l); {
		size = len(l)
		var found []pair
		for p := range l {
			more(p, func(q pair) { found = append(found, q) })
		}
		for _, q := range found {
			l[q] = true
		}
	}
}

// each goes through all alternatives, with their rules' numbers.
func (w words) each(do func(n int, alt []int)) {
	for r, alts := range w.c.Alts {
		for _, alt := range alts {
			do(-1-r, alt)
		}
	}
}

func (w words) allEmpty(l []int) bool {
	return !slices.ContainsFunc(l, func(n int) bool { return !w.empty[n] })
}

// behind are the tokens, and the end, in pairs with x.
func (w words) behind(l map[pair]bool, x int) []int {
	var out []int
	for y := range len(w.c.Tokens) + 1 {
		if l[pair{x, y}] {
			out = append(out, y)
		}
	}
	return out
}

// lead is what a sentence of seq begins with.
func (w words) lead(seq []int) []int {
	found := map[pair]bool{}
	for i, n := range seq {
		for _, y := range w.behind(w.begins, n) {
			found[pair{0, y}] = w.allEmpty(seq[:i]) || found[pair{0, y}]
		}
	}
	return w.behind(found, 0)
}

// short are rules' shortest sentences' lengths, in rounds from what is longer than all.
func (w words) short() []int {
	l := make([]float64, len(w.c.Names))
	for r := range l {
		l[r] = math.Inf(1)
	}
	for range l {
		w.each(func(n int, alt []int) {
			sum := 0.0
			for _, x := range alt {
				if x >= 0 {
					sum++
				} else {
					sum += l[-1-x]
				}
			}
			l[-1-n] = min(l[-1-n], sum)
		})
	}
	var out []int
	for _, x := range l {
		out = append(out, int(min(x, 1<<31-1)))
	}
	return out
}

// P9.1, P9.2, P9.3: many grammars, against the chapter's words.
func TestByWords(t *testing.T) {
	r := rand.New(rand.NewSource(1))
	for i := range 12000 {
		c := anyCfg(r, 2+i%4, 1+i%3, 2+i%3)
		w := wordsOf(c)
		nullable, first, follow := sets.Nullable(c), sets.First(c), sets.Follow(c)
		if got, want := sets.Short(c), w.short(); !slices.Equal(got, want) {
			t.Fatalf("%v: short is %v, want %v", c, got, want)
		}
		if len(nullable) != len(c.Names) || len(first) != len(c.Names) || len(follow) != len(c.Names) {
			t.Fatalf("%v: got %v, %v, %v", c, nullable, first, follow)
		}
		for k := range c.Names {
			n := -1 - k
			if nullable[k] != w.empty[n] || !slices.Equal(first[k], w.behind(w.begins, n)) || !slices.Equal(follow[k], w.behind(w.meets, n)) {
				t.Fatalf("%v: %s: got %v, %v, %v, want %v, %v, %v", c, c.Names[k], nullable[k], first[k], follow[k], w.empty[n], w.behind(w.begins, n), w.behind(w.meets, n))
			}
		}
		for range 5 {
			seq := anySeq(r, c, 5)
			if got, empty := sets.Lead(c, seq); !slices.Equal(got, w.lead(seq)) || empty != w.allEmpty(seq) {
				t.Fatalf("%v, %v: got %v, %v, want %v, %v", c, seq, got, empty, w.lead(seq), w.allEmpty(seq))
			}
		}
	}
}

// forms are the lists of numbers that come from seq by steps, by lists of so many numbers at the most.
func forms(c api.Cfg, seq []int, long int) [][]int {
	l := [][]int{seq}
	met := map[string]bool{fmt.Sprint(seq): true}
	for k := 0; k < len(l); k++ {
		for i, n := range l[k] {
			if n >= 0 {
				continue
			}
			for _, alt := range c.Alts[-1-n] {
				next := slices.Concat(l[k][:i], alt, l[k][i+1:])
				if s := fmt.Sprint(next); len(next) <= long && !met[s] {
					met[s] = true
					l = append(l, next)
				}
			}
		}
	}
	return l
}

// beginnings are the tokens with which sentences among forms begin, whether the empty one is there, and how long the shortest one is.
func beginnings(l [][]int) (first []int, empty bool, short int) {
	short = 1<<31 - 1
	for _, form := range l {
		if slices.ContainsFunc(form, func(n int) bool { return n < 0 }) {
			continue
		}
		short = min(short, len(form))
		if len(form) == 0 {
			empty = true
		} else {
			first = append(first, form[0])
		}
	}
	slices.Sort(first)
	return slices.Compact(first), empty, short
}

// followers are the tokens that stand right behind a number in forms, and the end, if it stands last in one.
func followers(c api.Cfg, l [][]int, n int) []int {
	var out []int
	for _, form := range l {
		form = append(slices.Clone(form), len(c.Tokens))
		for i, x := range form[1:] {
			if form[i] == n && x >= 0 {
				out = append(out, x)
			}
		}
	}
	slices.Sort(out)
	return slices.Compact(out)
}

// P9.1, P9.2, P9.3: small grammars, against all that comes from their rules by steps.
func TestBySteps(t *testing.T) {
	r := rand.New(rand.NewSource(2))
	for range 1500 {
		c := anyCfg(r, 3, 2, 2)
		all := forms(c, []int{-1}, 6)
		nullable, first, follow, short := sets.Nullable(c), sets.First(c), sets.Follow(c), sets.Short(c)
		for k, name := range c.Names {
			begin, empty, length := beginnings(forms(c, []int{-1 - k}, 6))
			behind := followers(c, all, -1-k)
			if nullable[k] != empty || !slices.Equal(first[k], begin) || !slices.Equal(follow[k], behind) || short[k] != length {
				t.Fatalf("%v: %s: got %v, %v, %v, %d, want %v, %v, %v, %d", c, name, nullable[k], first[k], follow[k], short[k], empty, begin, behind, length)
			}
		}
		seq := anySeq(r, c, 3)
		begin, empty, _ := beginnings(forms(c, seq, 7))
		if got, is := sets.Lead(c, seq); !slices.Equal(got, begin) || is != empty {
			t.Fatalf("%v, %v: got %v, %v, want %v, %v", c, seq, got, is, begin, empty)
		}
	}
}
