package sets_test

import (
	"math"
	"math/rand"
	"slices"
	"strconv"
	"strings"
	"testing"

	"quincunx/api"
	"quincunx/check"
	"quincunx/sets"
)

// askAll asks all that may be asked of a grammar, whatever it is.
func askAll(c api.Cfg, seqs ...[]int) {
	sets.Nullable(c)
	sets.First(c)
	sets.Follow(c)
	sets.Short(c)
	for _, seq := range append(seqs, nil) {
		sets.Lead(c, seq)
	}
}

// one is a grammar of a rule and a token that has these alternatives.
func one(alts ...[]int) api.Cfg {
	return api.Cfg{Tokens: []string{"a"}, Names: []string{"S"}, Alts: [][][]int{alts}}
}

// R1: of what may not be all calls end.
func TestOfOthers(t *testing.T) {
	for _, c := range []api.Cfg{
		{},
		{Tokens: []string{"a"}},
		{Names: []string{"S"}},
		{Alts: [][][]int{{{}}}},
		{Alts: [][][]int{{{0, -1}}}},
		{Names: []string{"S", "T"}, Alts: [][][]int{{{-2}}}},
		{Names: []string{"S"}, Alts: [][][]int{{{-2}}, {{}}}},
		{Names: []string{"S"}, Alts: [][][]int{nil}},
		{Names: []string{"S", "T"}, Alts: [][][]int{{{-2, -1}}, nil}},
		{Names: []string{"", "1"}, Tokens: []string{"", ""}, Alts: [][][]int{{{-2, 1}}, {{0}}}},
		one(),
		one([]int{-1}),    // barren
		one([]int{0, -1}), // barren, and no way to be short
		one([]int{-1, -1}),
		one([]int{0}, []int{1}), // the end's number
		one([]int{0}, []int{-1, 1}),
		one([]int{}, []int{1, -1}),
		one([]int{0}, []int{-2}),
		one([]int{0}, []int{-1, -2}),
		one([]int{math.MaxInt}, []int{}),
		one([]int{math.MinInt}, []int{}),
		one([]int{math.MinInt + 1, -1}, []int{-1, math.MaxInt - 1}),
		{Tokens: []string{"a"}, Names: []string{"S", "T"}, Alts: [][][]int{{{0}}, {{-1, -2}, {-2}}}}, // idle, and barren
	} {
		if check.Valid(c) == api.OK {
			t.Errorf("%v may be", c)
		}
		askAll(c, []int{0}, []int{-1}, []int{-1, -1, 0}, []int{-2}, []int{math.MinInt, math.MaxInt})
	}
}

// R1: of a grammar that may be, and lists that are not of its numbers, Lead ends.
func TestLeadOfOtherNumbers(t *testing.T) {
	c := read(t, "S = A a | b ; A = | a A ;", "a b")
	for _, n := range []int{2, 3, -3, -4, 60, -60, 1 << 32, math.MaxInt, math.MinInt, math.MinInt + 1} {
		for _, seq := range [][]int{{n}, {0, n}, {-2, n}, {n, 0}, {n, -1}, {-2, n, n}} {
			sets.Lead(c, seq)
		}
	}
}

// R1: random grammars, most of which may not be.
func TestOfRandomOthers(t *testing.T) {
	r := rand.New(rand.NewSource(5))
	for range 5000 {
		c := api.Cfg{Tokens: make([]string, r.Intn(3)), Names: make([]string, r.Intn(4))}
		for range len(c.Names) + r.Intn(6)/5 {
			var l [][]int
			for range r.Intn(4) {
				var alt []int
				for range r.Intn(4) {
					alt = append(alt, r.Intn(8)-4)
				}
				l = append(l, alt)
			}
			c.Alts = append(c.Alts, l)
		}
		askAll(c, []int{r.Intn(10) - 5, r.Intn(10) - 5}, []int{-1, 0})
	}
}

// great is a grammar of so many rules and tokens; each rule has what tells its alternatives.
func great(rules, tokens int, alts func(r int) [][]int) api.Cfg {
	var c api.Cfg
	for i := range tokens {
		c.Tokens = append(c.Tokens, "t"+strconv.Itoa(i))
	}
	for r := range rules {
		c.Names, c.Alts = append(c.Names, "R"+strconv.Itoa(r)), append(c.Alts, alts(r))
	}
	return c
}

// R1, R6: of grammars and lists that are far too great all calls end.
func TestOfGreatOthers(t *testing.T) {
	const n = 1 << 17
	chain := func(r int) [][]int { return [][]int{{r}, {-1 - (r+1)%n}} } // each has all tokens, n times n of them
	askAll(great(n, n, chain), []int{-1})
	askAll(great(n, 1, func(r int) [][]int { return [][]int{{-1 - (r+1)%n}, {0}} }), []int{-1})
	askAll(great(1, n, func(int) [][]int { return [][]int{{0}} }), []int{n - 1})
	askAll(great(1, 1, func(int) [][]int { return slices.Repeat([][]int{{-1, 0}, {}}, n) }), []int{-1})
	askAll(great(1, 1, func(int) [][]int { return [][]int{slices.Repeat([]int{-1}, n), {}} }), []int{-1})
}

// P9.1, P9.2, P9.3: the greatest grammars that there may be.
func TestOfGreatestGrammars(t *testing.T) {
	every := make([]int, 60)
	for i := range every {
		every[i] = i
	}
	r := rand.New(rand.NewSource(6))
	nullable := great(60, 60, func(k int) [][]int { // each begins with all, and is followed by all
		l := [][]int{{}, {k}}
		for len(l) < 30 {
			var alt []int
			for range 30 {
				alt = append(alt, -1-(k+1+r.Intn(59))%60)
			}
			l = append(l, alt)
		}
		return l
	})
	others := great(60, 60, func(k int) [][]int { // each begins with its own and those behind it: 30 t1, R1 30 times, ..
		l := [][]int{slices.Repeat([]int{k}, 30)}
		for len(l) < 30 && k < 59 {
			l = append(l, append(slices.Repeat([]int{-2 - k}, 29), k))
		}
		return l
	})
	for _, c := range []api.Cfg{nullable, others} {
		if e := check.Valid(c); e != api.OK {
			t.Fatalf("may not be: %d", e)
		}
	}
	first, follow, empty, short := sets.First(nullable), sets.Follow(nullable), sets.Nullable(nullable), sets.Short(nullable)
	for k := range 60 {
		if !slices.Equal(first[k], every) || !slices.Equal(follow[k], append(slices.Clone(every), 60)) || !empty[k] || short[k] != 0 {
			t.Errorf("R%d: %v, %v, %v, %d", k, first[k], follow[k], empty[k], short[k])
		}
	}
	first, follow, empty, short = sets.First(others), sets.Follow(others), sets.Nullable(others), sets.Short(others)
	for k := range 60 {
		behind := append([]int{k - 1}, every[k:]...) // what is ahead of it ends with its own, and it stands behind itself
		if k == 0 {
			behind = []int{60}
		}
		if !slices.Equal(first[k], every[k:]) || !slices.Equal(follow[k], behind) || empty[k] || short[k] != 30 {
			t.Errorf("R%d: %v, %v, %v, %d", k, first[k], follow[k], empty[k], short[k])
		}
	}
	for k, alts := range nullable.Alts {
		if lead, is := sets.Lead(nullable, alts[2+k%28]); !slices.Equal(lead, every) || !is {
			t.Fatalf("R%d: %v, %v", k, lead, is)
		}
	}
}

// P9.1, P9.3: what is found goes through chains of 60 rules, in either order.
func TestOfChains(t *testing.T) {
	for _, up := range []bool{true, false} {
		order := make([]int, 59) // the rules' own numbers behind the first one's
		for i := range order {
			order[i] = i + 1
			if !up {
				order[i] = 59 - i
			}
		}
		next := make([]string, 60) // the rule that each leads to
		at := 0
		for _, k := range order {
			next[at], at = "R"+strconv.Itoa(k), k
		}
		next[at] = "a |"
		var text, want []string
		for k := range 60 {
			text = append(text, "R"+strconv.Itoa(k)+" = "+next[k]+" ;")
			want = append(want, "R"+strconv.Itoa(k)+"?: a / $ / 0")
		}
		if got := told(read(t, strings.Join(text, " "), "a")); got != strings.Join(want, "; ") {
			t.Errorf("got %s", got)
		}
	}
}
