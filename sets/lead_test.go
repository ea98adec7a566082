package sets_test

import (
	"slices"
	"testing"

	"quincunx/sets"
)

// P9.2: what sentences of lists begin with, and whether the empty one is among them.
func TestLead(t *testing.T) {
	const S, A, B, C, a, b, c, d = -1, -2, -3, -4, 0, 1, 2, 3
	g := read(t, "S = A B C d ; A = B a | b ; B = c | ; C = B B | d C ;", "a b c d")
	for _, x := range []struct {
		seq   []int
		want  []int
		empty bool
	}{
		{nil, nil, true},
		{[]int{}, nil, true},
		{[]int{a}, []int{a}, false},
		{[]int{d}, []int{d}, false},
		{[]int{d, a}, []int{d}, false},
		{[]int{S}, []int{a, b, c}, false},
		{[]int{A}, []int{a, b, c}, false},
		{[]int{B}, []int{c}, true},
		{[]int{C}, []int{c, d}, true},
		{[]int{B, a}, []int{a, c}, false},
		{[]int{B, d, a}, []int{c, d}, false},
		{[]int{B, B}, []int{c}, true},
		{[]int{B, B, B, b}, []int{b, c}, false},
		{[]int{B, C}, []int{c, d}, true},
		{[]int{C, B}, []int{c, d}, true},
		{[]int{B, A}, []int{a, b, c}, false},
		{[]int{C, A}, []int{a, b, c, d}, false},
		{[]int{C, A, B}, []int{a, b, c, d}, false},
		{[]int{b, B}, []int{b}, false},
		{[]int{b, C, a}, []int{b}, false},
		{[]int{C, B, b, a}, []int{b, c, d}, false},
		{[]int{A, C}, []int{a, b, c}, false},
		{[]int{S, S, S}, []int{a, b, c}, false},
		{slices.Repeat([]int{B}, 1<<16), []int{c}, true}, // longer than an alternative
		{append(slices.Repeat([]int{B, C}, 1<<16), b), []int{b, c, d}, false},
		{append(slices.Repeat([]int{B, C}, 1<<16), b, a), []int{b, c, d}, false},
	} {
		short := x.seq[:min(len(x.seq), 5)]
		if got, empty := sets.Lead(g, x.seq); !slices.Equal(got, x.want) || empty != x.empty {
			t.Errorf("%v: got %v, %v, want %v, %v", short, got, empty, x.want, x.empty)
		}
	}
	if got, empty := sets.Lead(read(t, "S = ;", ""), []int{S, S}); len(got) > 0 || !empty {
		t.Errorf("got %v, %v", got, empty)
	}
}
