package nest_test

import (
	"runtime/debug"
	"slices"
	"testing"

	"quincunx/nest"
)

type thing struct {
	n int
	l []thing
}

func in(t thing) []thing { return t.l }

func alike(a, b thing) bool { return a.n == b.n }

func of(n int, l ...thing) thing { return thing{n, l} }

func within(t thing, times int) thing {
	for range times {
		t = of(0, t)
	}
	return t
}

func TestAll(t *testing.T) {
	var got [][2]int
	for depth, x := range nest.All(of(1, of(2, of(3), of(4)), of(5), of(6, of(7))), in) {
		got = append(got, [2]int{depth, x.n})
	}
	if want := [][2]int{{1, 1}, {2, 2}, {3, 3}, {3, 4}, {2, 5}, {2, 6}, {3, 7}}; !slices.Equal(got, want) {
		t.Errorf("got %v", got)
	}
}

func TestAllIsLeft(t *testing.T) {
	n := 0
	for range nest.All(of(1, of(2, of(3)), of(4)), in) {
		n++
		if n == 2 {
			break
		}
	}
	if n != 2 {
		t.Errorf("went on to %d", n)
	}
}

func TestSame(t *testing.T) {
	for i, x := range []struct {
		a, b thing
		want bool
	}{
		{of(1), of(1), true},
		{of(1), of(2), false},
		{of(1, of(2), of(3)), of(1, of(2), of(3)), true},
		{of(1, of(2), of(3)), of(1, of(3), of(2)), false},
		{of(1, of(2)), of(1, of(2), of(3)), false},
		{of(1, of(2, of(3))), of(1, of(2), of(3)), false},
		{of(1, of(2, of(3)), of(4)), of(1, of(2), of(4, of(3))), false},
	} {
		if nest.Same(x.a, x.b, in, alike) != x.want || nest.Same(x.b, x.a, in, alike) != x.want {
			t.Errorf("%d: got %v", i, !x.want)
		}
	}
}

func TestVeryDeep(t *testing.T) {
	const times = 200_000
	defer debug.SetMaxStack(debug.SetMaxStack(1 << 20))
	a, b := within(of(1), times), within(of(2), times)
	if !nest.Same(a, a, in, alike) || nest.Same(a, b, in, alike) {
		t.Error("Same")
	}
	deepest := 0
	for depth := range nest.All(a, in) {
		deepest = max(deepest, depth)
	}
	if deepest != times+1 {
		t.Errorf("got %d", deepest)
	}
}
