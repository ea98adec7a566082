package table_test

import (
	"fmt"
	"math"
	"math/rand"
	"slices"
	"strconv"
	"testing"

	"quincunx/api"
	"quincunx/check"
	"quincunx/table"
)

// askAll asks all that may be asked of a grammar, whatever it is.
func askAll(c api.Cfg) {
	table.Clashes(c)
	table.Build(c)
	for _, r := range []int{math.MinInt, -1, 0, 1, 2, len(c.Alts) - 1, len(c.Alts), math.MaxInt} {
		for _, alt := range []int{math.MinInt, -1, 0, 1, 2, 1 << 16, math.MaxInt} {
			table.Predict(c, r, alt)
		}
	}
}

// R1: of what may not be all calls end.
func TestOfOthers(t *testing.T) {
	one := func(alts ...[]int) api.Cfg {
		return api.Cfg{Tokens: []string{"a"}, Names: []string{"S"}, Alts: [][][]int{alts}}
	}
	for _, c := range []api.Cfg{
		{},
		{Tokens: []string{"a"}},
		{Names: []string{"S"}},
		{Alts: [][][]int{{{}}}},
		{Alts: [][][]int{{{0, -1}}}},
		{Alts: [][][]int{{{}, {}}}},
		{Alts: [][][]int{nil, nil}},
		{Names: []string{"S", "T"}, Alts: [][][]int{{{-2}, {}}}},
		{Names: []string{"S"}, Alts: [][][]int{{{-2}, {-2}}, {{}}}},
		{Names: []string{"S"}, Alts: [][][]int{nil}},
		{Names: []string{"S", "T"}, Alts: [][][]int{{{-2, -1}}, nil}},
		{Names: []string{"", "1"}, Tokens: []string{"", ""}, Alts: [][][]int{{{-2, 1}}, {{0}, {}}}},
		one(),
		one([]int{-1}), // barren
		one([]int{-1}, []int{-1}),
		one([]int{0}, []int{1}), // the end's number
		one([]int{0}, []int{-1, 1}),
		one([]int{}, []int{1, -1}),
		one([]int{0}, []int{-2}),
		one([]int{math.MaxInt}, []int{}),
		one([]int{math.MinInt}, []int{}),
		{Tokens: []string{"a"}, Names: []string{"S", "T"}, Alts: [][][]int{{{0}}, {{}}}}, // idle: nothing follows T
		{Tokens: []string{"a"}, Names: []string{"S", "T"}, Alts: [][][]int{{{0}}, {{}, {-2}, {}}}},
	} {
		if check.Valid(c) == api.OK {
			t.Errorf("%v may be", c)
		}
		askAll(c)
	}
}

// R1: random grammars, most of which may not be.
func TestOfRandomOthers(t *testing.T) {
	r := rand.New(rand.NewSource(3))
	for range 5000 {
		c := api.Cfg{Tokens: make([]string, r.Intn(3)), Names: make([]string, r.Intn(4))}
		for range len(c.Names) + r.Intn(6)/5 {
			var l [][]int
			for range r.Intn(4) {
				var alt []int
				for range r.Intn(4) {
					alt = append(alt, r.Intn(8)-4)
				}
				l = append(l, alt)
			}
			c.Alts = append(c.Alts, l)
		}
		askAll(c)
	}
}

// great is a grammar of so many rules and tokens; each rule has what tells its alternatives.
func great(rules, tokens int, alts func(r int) [][]int) api.Cfg {
	var c api.Cfg
	for i := range tokens {
		c.Tokens = append(c.Tokens, "t"+strconv.Itoa(i))
	}
	for r := range rules {
		c.Names, c.Alts = append(c.Names, "R"+strconv.Itoa(r)), append(c.Alts, alts(r))
	}
	return c
}

// R1, R6: of grammars that are far too great all calls end.
func TestOfGreatOthers(t *testing.T) {
	const n = 1 << 17
	askAll(great(n, n, func(r int) [][]int { return [][]int{{r}, {-1 - (r+1)%n}} }))
	askAll(great(1, n, func(int) [][]int { return [][]int{{0}, {n - 1}} }))
	askAll(great(1, 1, func(int) [][]int { return slices.Repeat([][]int{{-1, 0}, {}}, n) }))
	askAll(great(1, 1, func(int) [][]int { return [][]int{slices.Repeat([]int{-1}, n), {}} }))
	askAll(great(60, 60, func(r int) [][]int { // only the last rule has too many alternatives
		l := slices.Repeat([][]int{slices.Repeat([]int{r}, 30)}, 30)
		if r == 59 {
			l = slices.Repeat(l, n/30)
		}
		return l
	}))
}

// rulesBehind are so many numbers of others of 60 rules than k.
func rulesBehind(r *rand.Rand, k, long int) []int {
	var l []int
	for range long {
		l = append(l, -1-(k+1+r.Intn(59))%60)
	}
	return l
}

// P10.2: the greatest grammar that there may be whose alternatives clash at all.
func TestGreatestClashes(t *testing.T) {
	r := rand.New(rand.NewSource(4))
	c := great(60, 60, func(k int) [][]int { // each rule begins with all tokens, and is followed by all
		l := [][]int{{}, {k}}
		for len(l) < 30 {
			l = append(l, rulesBehind(r, k, 30))
		}
		return l
	})
	if e := check.Valid(c); e != api.OK {
		t.Fatalf("may not be: %d", e)
	}
	var want []api.Clash
	for k := range 60 {
		for token := range 61 {
			for a := range 30 {
				for b := a + 1; b < 30; b++ {
					if token == k || a != 1 && b != 1 {
						want = append(want, api.Clash{Rule: k, Token: token, A: a, B: b})
					}
				}
			}
		}
	}
	if got := table.Clashes(c); !slices.Equal(got, want) {
		t.Errorf("got %d clashes, want %d", len(got), len(want))
	}
	if l, e := table.Build(c); e != api.ErrClash || l != nil {
		t.Errorf("got %v, %d", l, e)
	}
}

// P10.1, P10.3: the greatest grammar that there may be without a clash.
func TestGreatestTable(t *testing.T) {
	r := rand.New(rand.NewSource(5))
	c := great(60, 60, func(k int) [][]int { // the alternative a begins with the token k + a, around
		l := [][]int{slices.Repeat([]int{k}, 30)}
		for a := 1; a < 30; a++ {
			l = append(l, append([]int{(k + a) % 60}, rulesBehind(r, k, 29)...))
		}
		return l
	})
	if e := check.Valid(c); e != api.OK {
		t.Fatalf("may not be: %d", e)
	}
	l, e := table.Build(c)
	if e != api.OK || len(l) != 60 {
		t.Fatalf("got %d rows, %d", len(l), e)
	}
	for k, row := range l {
		want := slices.Repeat([]int{-1}, 61)
		for a := range 30 {
			want[(k+a)%60] = a
		}
		if !slices.Equal(row, want) {
			t.Errorf("R%d: got %v, want %v", k, row, want)
		}
		if got := table.Predict(c, k, 29); !slices.Equal(got, []int{(k + 29) % 60}) {
			t.Errorf("R%d: got %v", k, got)
		}
	}
}

// R2, R5: what was handed in stays what it is, and the same comes again.
func TestCallsChangeNothing(t *testing.T) {
	r := rand.New(rand.NewSource(6))
	for range 500 {
		c := anyCfg(r, 5, 3, 4)
		was := fmt.Sprint(c)
		once := func() string {
			l, e := table.Build(c)
			return fmt.Sprint(table.Clashes(c), l, e, table.Predict(c, 0, 0), table.Predict(c, len(c.Alts)-1, 0))
		}
		if one, other := once(), once(); one != other {
			t.Fatalf("%s: got %s, then %s", was, one, other)
		}
		if is := fmt.Sprint(c); is != was {
			t.Fatalf("%s: now %s", was, is)
		}
	}
}

// R2: what is answered is the caller's: it shares nothing with what was asked of, nor do two lists of it.
func TestListsShareNothing(t *testing.T) {
	c := read(t, "S = a S T | ; T = b T | c ;", "a b c")
	was := fmt.Sprint(c)
	l, e := table.Build(c)
	if got, want := toldTable(c, l), "S: 0 1 1 1; T: - 0 1 -"; e != api.OK || got != want {
		t.Fatalf("got %s, %d, want %s", got, e, want)
	}
	for i := range l {
		_ = append(l[i], 8, 8, 8)
		want := fmt.Sprint(l[:i], l[i+1:])
		for j := range l[i] {
			l[i][j] = 9
		}
		if got := fmt.Sprint(l[:i], l[i+1:]); got != want {
			t.Errorf("got %s, want %s", got, want)
		}
	}
	for r, alts := range c.Alts {
		for alt := range alts {
			one, other := table.Predict(c, r, alt), table.Predict(c, r, alt)
			one[0] = 9
			if other[0] == 9 {
				t.Errorf("%d, %d: two answers share a list", r, alt)
			}
		}
	}
	if is := fmt.Sprint(c); is != was {
		t.Errorf("now %s", is)
	}
	again, _ := table.Build(c)
	c.Alts[0][0][0], c.Alts[1] = 1, nil // behind the call
	if got, want := toldTable(c, again), "S: 0 1 1 1; T: - 0 1 -"; got != want {
		t.Errorf("got %s, want %s", got, want)
	}
}
