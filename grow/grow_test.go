package grow_test

import (
	"fmt"
	"maps"
	"math/rand"
	"slices"
	"testing"

	"quincunx/grow"
)

// elements are a set's, in order.
func elements(s grow.Set[int]) []int { return slices.Sorted(maps.Keys(s)) }

func TestSet(t *testing.T) {
	s := grow.Set[string]{}
	if s.Has("a") || !s.Add("a") || s.Add("a") || !s.Has("a") || s.Has("") || !s.Add("") || s.Add("") || len(s) != 2 {
		t.Errorf("got %v", s)
	}
	var none grow.Set[int]
	if none.Has(0) {
		t.Error("nothing has 0")
	}
}

func TestReach(t *testing.T) {
	steps := [][]int{{1, 2}, {3}, {3, 3, 1}, {}, {5, 4}, {4}, {6}, nil}
	for _, x := range []struct{ from, want []int }{
		{nil, nil},
		{[]int{0}, []int{0, 1, 2, 3}},
		{[]int{1}, []int{1, 3}},
		{[]int{2}, []int{1, 2, 3}},
		{[]int{3}, []int{3}},
		{[]int{4}, []int{4, 5}},
		{[]int{5}, []int{4, 5}},
		{[]int{6}, []int{6}},
		{[]int{7, 7, 7}, []int{7}},
		{[]int{6, 4, 6, 1}, []int{1, 3, 4, 5, 6}},
	} {
		was := slices.Clone(x.from)
		asked := map[int]int{}
		got := elements(grow.Reach(x.from, func(n int, add func(...int)) {
			asked[n]++
			add(steps[n]...)
		}))
		if !slices.Equal(got, x.want) || !slices.Equal(x.from, was) {
			t.Errorf("%v: got %v, want %v; now %v", was, got, x.want, x.from)
		}
		for _, n := range got {
			if asked[n] != 1 {
				t.Errorf("%v: %d was asked for %d times", was, n, asked[n])
			}
		}
	}
}

func way(makes int, needs ...int) grow.Way[int] { return grow.Way[int]{Makes: makes, Needs: needs} }

func TestMade(t *testing.T) {
	for _, x := range []struct {
		name string
		ways []grow.Way[int]
		want []int
	}{
		{"nothing", nil, nil},
		{"of nothing", []grow.Way[int]{way(1)}, []int{1}},
		{"of what is not there", []grow.Way[int]{way(1, 2)}, nil},
		{"of itself", []grow.Way[int]{way(1, 1)}, nil},
		{"of itself, and of nothing", []grow.Way[int]{way(1, 1), way(1)}, []int{1}},
		{"one of the other", []grow.Way[int]{way(1, 2), way(2, 1)}, nil},
		{"in order", []grow.Way[int]{way(1), way(2, 1), way(3, 2, 1)}, []int{1, 2, 3}},
		{"against the order", []grow.Way[int]{way(3, 2, 1), way(2, 1), way(1)}, []int{1, 2, 3}},
		{"of the same twice", []grow.Way[int]{way(3, 1, 2, 1, 2), way(2), way(1)}, []int{1, 2, 3}},
		{"all but the last", []grow.Way[int]{way(4, 1, 2, 3), way(1), way(2)}, []int{1, 2}},
		{"all but the first", []grow.Way[int]{way(4, 1, 2, 3), way(3), way(2)}, []int{2, 3}},
		{"in two ways, by the second one", []grow.Way[int]{way(3, 1), way(3, 2), way(2)}, []int{2, 3}},
		{"two that wait for one", []grow.Way[int]{way(2, 1), way(3, 1), way(1)}, []int{1, 2, 3}},
	} {
		if got := elements(grow.Made(x.ways)); !slices.Equal(got, x.want) {
			t.Errorf("%s: got %v, want %v", x.name, got, x.want)
		}
	}
}

// Many ways, against going through all of them till nothing is new; what was handed in stays what it is.
func TestMadeInRounds(t *testing.T) {
	r := rand.New(rand.NewSource(1))
	for range 5000 {
		var ways []grow.Way[int]
		for range r.Intn(12) {
			w := way(r.Intn(8))
			for range r.Intn(4) {
				w.Needs = append(w.Needs, r.Intn(8))
			}
			ways = append(ways, w)
		}
		want := grow.Set[int]{}
		for range ways {
			for _, w := range ways {
				if !slices.ContainsFunc(w.Needs, func(n int) bool { return !want.Has(n) }) {
					want.Add(w.Makes)
				}
			}
		}
		was := fmt.Sprint(ways)
		if got := grow.Made(ways); !maps.Equal(got, want) {
			t.Fatalf("%v: got %v, want %v", ways, got, want)
		}
		if is := fmt.Sprint(ways); is != was {
			t.Fatalf("%s: now %s", was, is)
		}
	}
}

// Chains that are long, in either order, take no longer than they are.
func TestLongChains(t *testing.T) {
	const n = 1 << 18
	var up []grow.Way[int]
	for i := range n {
		up = append(up, way(i+1, i, i/2))
	}
	down := slices.Clone(up)
	slices.Reverse(down)
	for _, ways := range [][]grow.Way[int]{up, down} {
		if got := grow.Made(ways); len(got) != 0 {
			t.Errorf("got %d", len(got))
		}
		if got := grow.Made(append(ways, way(0))); len(got) != n+1 {
			t.Errorf("got %d", len(got))
		}
	}
	if got := grow.Reach([]int{0}, func(x int, add func(...int)) { add((x + 1) % n) }); len(got) != n {
		t.Errorf("got %d", len(got))
	}
}
