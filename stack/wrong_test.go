package stack_test

import (
	"fmt"
	"math"
	"math/rand"
	"slices"
	"testing"

	"quincunx/api"
	"quincunx/stack"
)

// P15.1: a rule is one that has alternatives in a grammar, be they none; names are not asked for, nor what else stands there.
func TestOddGrammars(t *testing.T) {
	for _, x := range []struct {
		name string
		c    api.Cfg
		n    int
		want [][]int
		is   bool
	}{
		{"nothing", api.Cfg{}, -1, nil, false},
		{"a name alone", api.Cfg{Names: []string{"S"}}, -1, nil, false},
		{"alternatives alone", api.Cfg{Alts: [][][]int{{{4}, {}}}}, -1, [][]int{{4}, {}}, true},
		{"no alternative", api.Cfg{Names: []string{"S"}, Alts: [][][]int{nil}}, -1, nil, true},
		{"the second rule", api.Cfg{Names: []string{"S", "T"}, Alts: [][][]int{{{4}}, {{5}}}}, -2, [][]int{{5}}, true},
		{"behind the last rule", api.Cfg{Names: []string{"S", "T"}, Alts: [][][]int{{{4}}, {{5}}}}, -3, nil, false},
		{"behind the last alternatives", api.Cfg{Names: []string{"S", "T", "U"}, Alts: [][][]int{{{4}}, {{5}}}}, -3, nil, false},
		{"a token", api.Cfg{Tokens: []string{"a"}, Names: []string{"S"}, Alts: [][][]int{{{4}}}}, 0, nil, false},
		{"a token of a rule's place", api.Cfg{Names: []string{"S", "T"}, Alts: [][][]int{{{4}}, {{5}}}}, 1, nil, false},
		{"far below", api.Cfg{Names: []string{"S"}, Alts: [][][]int{{{4}}}}, math.MinInt, nil, false},
		{"far below, by one less", api.Cfg{Names: []string{"S"}, Alts: [][][]int{{{4}}}}, math.MinInt + 1, nil, false},
		{"far above", api.Cfg{Names: []string{"S"}, Alts: [][][]int{{{4}}}}, math.MaxInt, nil, false},
		{"the same in 32 bits", api.Cfg{Names: []string{"S"}, Alts: [][][]int{{{4}}}}, -1 - 1<<32, nil, false},
		{"other numbers", api.Cfg{Names: []string{"S"}, Alts: [][][]int{{{math.MinInt, -9}, {math.MaxInt}}}}, -1, [][]int{{math.MinInt, -9}, {math.MaxInt}}, true},
	} {
		tail := []int{-6, 7}
		p := api.Pair{A: append([]int{x.n}, tail...), B: append([]int{x.n}, tail...)}
		var wantOld, wantNew []api.Pair
		for _, alt := range x.want {
			long := append(slices.Clone(alt), tail...)
			wantOld = append(wantOld, api.Pair{A: long, B: p.B})
			wantNew = append(wantNew, api.Pair{A: p.A, B: long})
		}
		got, is := stack.Old(x.c, p)
		if is != x.is || !slices.EqualFunc(got, wantOld, stack.Same) {
			t.Errorf("%s: Old: got %v, %v", x.name, got, is)
		}
		for alt := -2; alt < len(x.want)+2; alt++ {
			q, is := stack.New(x.c, p, alt)
			if want := alt >= 0 && alt < len(x.want); is != want || is && !stack.Same(q, wantNew[alt]) || !is && !isNothing(q) {
				t.Errorf("%s: New, %d: got %v, %v", x.name, alt, q, is)
			}
		}
	}
}

// P15.1, P15.2: Old and Next's ByOld ask the old grammar, New and ByNew the new one.
func TestWhichGrammarIsAsked(t *testing.T) {
	c := api.Cfg{Names: []string{"S"}, Alts: [][][]int{{{1}, {2}}}}
	p := api.Pair{A: []int{-1}, B: []int{-1}}
	old, new := api.Proof{P: p, How: api.ByOld}, api.Proof{P: p, How: api.ByNew, Alt: 1}
	for _, x := range []struct {
		c, d api.Cfg
		x    api.Proof
		want []api.Pair
	}{
		{c, api.Cfg{}, old, []api.Pair{{A: []int{1}, B: p.B}, {A: []int{2}, B: p.B}}},
		{api.Cfg{}, c, old, nil},
		{c, api.Cfg{}, new, nil},
		{api.Cfg{}, c, new, []api.Pair{{A: p.A, B: []int{2}}}},
	} {
		if got, is := stack.Next(x.c, x.d, x.x); is != (x.want != nil) || !slices.EqualFunc(got, x.want, stack.Same) {
			t.Errorf("%v: got %v, %v, want %v", x.x, got, is, x.want)
		}
	}
}

// othersCfg is one of any numbers and lengths; most may not be.
func othersCfg(r *rand.Rand) api.Cfg {
	c := api.Cfg{Tokens: make([]string, r.Intn(3)), Names: make([]string, r.Intn(4))}
	for range r.Intn(5) {
		alts := make([][]int, r.Intn(4))
		for i := range alts {
			alts[i] = othersList(r)
		}
		c.Alts = append(c.Alts, alts)
	}
	return c
}

func othersList(r *rand.Rand) []int {
	var l []int
	for range r.Intn(4) {
		if r.Intn(12) == 0 {
			l = append(l, []int{math.MinInt, math.MinInt + 1, math.MaxInt, 1 << 32, -1 << 32}[r.Intn(5)])
		} else {
			l = append(l, r.Intn(8)-5)
		}
	}
	return l
}

// byWords is what stack.Next is by the chapter's words.
func byWords(c, d api.Cfg, x api.Proof) (l []api.Pair, is bool) {
	put := func(g api.Cfg, list []int) (out [][]int, is bool) { // list with each alternative for its first one
		for r, alts := range g.Alts {
			if len(list) > 0 && list[0] == -1-r {
				for _, alt := range alts {
					out = append(out, append(slices.Clone(alt), list[1:]...))
				}
				return out, true
			}
		}
		return nil, false
	}
	a, b := x.P.A, x.P.B
	both := len(a) > 0 && len(b) > 0
	switch {
	case x.How == api.ByEnd && len(a)+len(b) == 0:
		return nil, true
	case x.How == api.ByDrop && both && a[0] == b[0] && a[0] >= 0:
		return []api.Pair{{A: a[1:], B: b[1:]}}, true
	case x.How == api.ByOld:
		all, is := put(c, a)
		for _, one := range all {
			l = append(l, api.Pair{A: one, B: b})
		}
		return l, is
	case x.How == api.ByNew:
		all, is := put(d, b)
		for i, one := range all {
			if i == x.Alt {
				return []api.Pair{{A: a, B: one}}, is
			}
		}
	case x.How == api.BySplit && both:
		return []api.Pair{{A: a[:1], B: b[:1]}, {A: a[1:], B: b[1:]}}, true
	}
	return nil, false
}

// P15.1, P15.2, R1: many grammars and pairs, most of which may not be, against the chapter's words.
func TestByWords(t *testing.T) {
	r := rand.New(rand.NewSource(3))
	told := map[int]int{}
	for range 150000 {
		c, d := othersCfg(r), othersCfg(r)
		x := api.Proof{P: api.Pair{A: othersList(r), B: othersList(r)}, How: r.Intn(8) - 1, Alt: r.Intn(6) - 1}
		got, is := stack.Next(c, d, x)
		want, wantIs := byWords(c, d, x)
		if is != wantIs || !slices.EqualFunc(got, want, stack.Same) {
			t.Fatalf("%v, %v: %v: got %v, %v, want %v, %v", c, d, x, got, is, want, wantIs)
		}
		if is {
			told[x.How]++
		}
		q := api.Pair{A: othersList(r), B: othersList(r)}
		if r.Intn(2) == 0 {
			q = api.Pair{A: slices.Clone(x.P.A), B: slices.Clone(x.P.B)}
		}
		if got, want := stack.Same(x.P, q), fmt.Sprint(x.P) == fmt.Sprint(q); got != want {
			t.Fatalf("%v and %v: got %v", x.P, q, got)
		}
	}
	for how := api.ByEnd; how <= api.BySplit; how++ {
		if told[how] < 300 {
			t.Errorf("by %d: only %d", how, told[how])
		}
	}
}

// R2, R5: what was handed in stays what it is, also behind its end, and the same comes again.
func TestCallsChangeNothing(t *testing.T) {
	r := rand.New(rand.NewSource(4))
	room := func(l []int) []int { return append(make([]int, 0, len(l)+8), l...) } // behind which one could write
	for range 5000 {
		c, d := othersCfg(r), othersCfg(r)
		for _, g := range []api.Cfg{c, d} {
			for _, alts := range g.Alts {
				for i := range alts {
					alts[i] = room(alts[i])
				}
			}
		}
		x := api.Proof{P: api.Pair{A: room(othersList(r)), B: room(othersList(r))}, How: 1 + r.Intn(5), Alt: r.Intn(3)}
		told := func() string {
			s := fmt.Sprint(c, d, x, x.P.A[:cap(x.P.A)], x.P.B[:cap(x.P.B)])
			for _, alts := range slices.Concat(c.Alts, d.Alts) {
				for _, alt := range alts {
					s += fmt.Sprint(alt[:cap(alt)])
				}
			}
			return s
		}
		was := told()
		once := func() string {
			l, is := stack.Next(c, d, x)
			return fmt.Sprint(l, is)
		}
		one := once()
		if is := told(); is != was {
			t.Fatalf("%s: now %s", was, is)
		}
		if other := once(); other != one {
			t.Fatalf("%s: got %s, then %s", was, one, other)
		}
	}
}

// R2: each list that is answered is the caller's own: it shares nothing with another one, or with what was asked of.
func TestListsShareNothing(t *testing.T) {
	c := api.Cfg{Names: []string{"S"}, Alts: [][][]int{{{1, 2}, nil, {3}, {}}}}
	p := api.Pair{A: []int{-1, 5, 6}, B: []int{-1, 7, 8}}
	drop := api.Pair{A: []int{4, 5, 6}, B: []int{4, 7, 8}}
	bare := api.Pair{A: []int{-1}, B: []int{-1}} // nothing is joined to what was handed in
	was := fmt.Sprint(c, p, drop, bare)
	for _, x := range []api.Proof{
		{P: drop, How: api.ByDrop},
		{P: p, How: api.ByOld},
		{P: p, How: api.ByNew},
		{P: p, How: api.ByNew, Alt: 1},
		{P: p, How: api.BySplit},
		{P: bare, How: api.ByOld},
		{P: bare, How: api.ByNew},
		{P: bare, How: api.BySplit},
	} {
		l, is := stack.Next(c, c, x)
		want := fmt.Sprint(l)
		if !is {
			t.Fatalf("by %d: nothing", x.How)
		}
		var lists [][]int
		for _, q := range l {
			lists = append(lists, q.A, q.B)
		}
		for _, one := range lists { // behind one there is no other one
			_ = append(one, slices.Repeat([]int{77}, cap(one)-len(one))...)
		}
		if got := fmt.Sprint(l); got != want {
			t.Errorf("by %d: behind lists: got %s, want %s", x.How, got, want)
		}
		for i, one := range lists {
			for k := range one {
				one[k] = 100 + i
			}
		}
		for i, one := range lists {
			if slices.ContainsFunc(one, func(n int) bool { return n != 100+i }) {
				t.Errorf("by %d: the list %d was written into: %v", x.How, i, one)
			}
		}
		again, _ := stack.Next(c, c, x)
		if now := fmt.Sprint(c, p, drop, bare); now != was || fmt.Sprint(again) != want {
			t.Errorf("by %d: now %s, and %v, want %s, and %s", x.How, now, again, was, want)
		}
	}
}

// R2: who handed a list in may write into it behind the call.
func TestWrittenIntoBehindTheCall(t *testing.T) {
	for _, how := range []int{api.ByDrop, api.ByOld, api.ByNew, api.BySplit} {
		c := api.Cfg{Names: []string{"S"}, Alts: [][][]int{{{1, 2}, {}}}}
		p := api.Pair{A: []int{-1, 5, 6}, B: []int{-1, 7, 8}}
		if how == api.ByDrop {
			p.A[0], p.B[0] = 4, 4
		}
		l, is := stack.Next(c, c, api.Proof{P: p, How: how, Alt: 1})
		want := fmt.Sprint(l)
		for _, one := range [][]int{p.A, p.B, c.Alts[0][0]} {
			for i := range one {
				one[i] = 99
			}
		}
		c.Alts[0][0], c.Alts[0][1] = nil, []int{98}
		if got := fmt.Sprint(l); !is || got != want {
			t.Errorf("by %d: got %s, want %s", how, got, want)
		}
	}
}

// R6: lists and grammars that are far too long.
func TestLongLists(t *testing.T) {
	const n = 1 << 19
	long := make([]int, n)
	long[0] = -n
	c := api.Cfg{Alts: make([][][]int, n)}
	c.Alts[n-1] = [][]int{long[1:], {3}}
	p := api.Pair{A: long, B: long}
	got, is := stack.Old(c, p)
	if !is || len(got) != 2 || len(got[0].A) != 2*n-2 || !slices.Equal(got[1].A, append([]int{3}, long[1:]...)) || !slices.Equal(got[0].B, long) {
		t.Errorf("Old: got %d, %v", len(got), is)
	}
	if q, is := stack.New(c, p, 0); !is || len(q.B) != 2*n-2 || !slices.Equal(q.A, long) {
		t.Errorf("New: got %d, %v", len(q.B), is)
	}
	first, rest, is := stack.Split(p)
	if !is || !stack.Same(first, api.Pair{A: long[:1], B: long[:1]}) || !stack.Same(rest, api.Pair{A: long[1:], B: long[1:]}) {
		t.Errorf("Split: got %v, %v", first, is)
	}
	if q, is := stack.Drop(rest); !is || !stack.Same(q, api.Pair{A: long[2:], B: long[2:]}) {
		t.Errorf("Drop: got %d, %v", len(q.A), is)
	}
	other := slices.Clone(long)
	other[n-1] = 1
	if !stack.Same(p, api.Pair{A: slices.Clone(long), B: slices.Clone(long)}) || stack.Same(p, api.Pair{A: long, B: other}) || stack.Same(p, api.Pair{A: other, B: long}) {
		t.Error("Same")
	}
	many := api.Cfg{Alts: [][][]int{make([][]int, n)}}
	if got, is := stack.Old(many, api.Pair{A: []int{-1}, B: []int{2}}); !is || len(got) != n || !stack.Same(got[n-1], api.Pair{B: []int{2}}) {
		t.Errorf("of many alternatives: got %d, %v", len(got), is)
	}
}
