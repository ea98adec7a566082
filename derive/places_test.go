package derive

import (
	"maps"
	"math/rand"
	"slices"
	"testing"
)

// Sets of places, against maps: what is joined, what of it is new, what is there, and what is gone through.
func TestPlaces(t *testing.T) {
	r := rand.New(rand.NewSource(1))
	for range 3000 {
		var p places
		want := map[int]int{}
		most := []int{3, 64, 65, 200, 5000}[r.Intn(5)]
		for range 1 + r.Intn(8) {
			var others places
			added := map[int]int{}
			for range r.Intn(6) {
				at := r.Intn(most)
				others.join(only(at))
				added[at]++
			}
			kept := slices.Clone(others)
			fresh := p.join(others)
			maps.DeleteFunc(added, func(at, _ int) bool { return want[at] > 0 })
			if got := slices.Collect(fresh.each); !slices.Equal(got, slices.Sorted(maps.Keys(added))) {
				t.Fatalf("new are %v, want %v", got, added)
			}
			maps.Copy(want, added)
			if got := slices.Collect(p.each); !slices.Equal(got, slices.Sorted(maps.Keys(want))) {
				t.Fatalf("got %v, want %v", got, want)
			}
			if !slices.Equal(kept, others) {
				t.Fatalf("%v: now %v", kept, others)
			}
			for range 20 {
				if at := r.Intn(most + 64); p.has(at) != (want[at] > 0) {
					t.Fatalf("%v: has %d: %v", want, at, p.has(at))
				}
			}
		}
		for at := range p.each { // no further than one wants
			if !p.has(at) {
				t.Fatalf("%v has no %d", p, at)
			}
			break
		}
	}
}
