package wire_test

import (
	"runtime/debug"
	"testing"

	"quincunx/api"
	"quincunx/wire"
)

func num(n int64) api.Item { return api.Item{Kind: api.Num, N: n} }

func text(s string) api.Item { return api.Item{Kind: api.Text, S: s} }

func list(l ...api.Item) api.Item { return api.Item{Kind: api.List, L: l} }

// within is an item that stands in so many lists.
func within(v api.Item, lists int) api.Item {
	for range lists {
		v = list(v)
	}
	return v
}

// P1.1: which items may be, by their kinds.
func TestCheckKinds(t *testing.T) {
	some := []api.Item{num(1)}
	for _, x := range []struct {
		name string
		v    api.Item
		want api.Errno
	}{
		{"num", num(7), api.OK},
		{"num 0", num(0), api.OK},
		{"num, least", num(-1 << 63), api.OK},
		{"text", text("ab"), api.OK},
		{"text without bytes", text(""), api.OK},
		{"text of any bytes", text("\x00\xff\x80"), api.OK},
		{"list of none", list(), api.OK},
		{"list of all kinds", list(num(1), text("x"), list(list(), num(2))), api.OK},
		{"num, an empty list beside it", api.Item{Kind: api.Num, N: 1, L: []api.Item{}}, api.OK},
		{"text, an empty list beside it", api.Item{Kind: api.Text, S: "x", L: []api.Item{}}, api.OK},
		{"list, empty and not nil", api.Item{Kind: api.List, L: []api.Item{}}, api.OK},

		{"nothing", api.Item{}, api.ErrArg},
		{"kind 4", api.Item{Kind: 4}, api.ErrArg},
		{"kind -1", api.Item{Kind: -1}, api.ErrArg},
		{"kind 257", api.Item{Kind: 257, N: 1}, api.ErrArg},
		{"num with S", api.Item{Kind: api.Num, S: "x"}, api.ErrArg},
		{"num with L", api.Item{Kind: api.Num, L: some}, api.ErrArg},
		{"text with N", api.Item{Kind: api.Text, N: 1}, api.ErrArg},
		{"text with L", api.Item{Kind: api.Text, L: some}, api.ErrArg},
		{"list with N", api.Item{Kind: api.List, N: -1, L: some}, api.ErrArg},
		{"list with S", api.Item{Kind: api.List, S: "x", L: some}, api.ErrArg},
		{"first of a list", list(api.Item{}, num(1)), api.ErrArg},
		{"last of a list", list(num(1), text("x"), api.Item{}), api.ErrArg},
		{"in a list in a list", list(num(1), list(list(), list(num(2), api.Item{Kind: 9})), num(3)), api.ErrArg},
	} {
		if got := wire.Check(x.v); got != x.want {
			t.Errorf("%s: got %d, want %d", x.name, got, x.want)
		}
	}
}

// P1.1: how deep an item may be, and that what may not be is told ahead of that.
func TestCheckDepth(t *testing.T) {
	for _, x := range []struct {
		name string
		v    api.Item
		want api.Errno
	}{
		{"40 by lists alone", within(list(), 39), api.OK},
		{"40, a num in them", within(num(1), 39), api.OK},
		{"41 by lists alone", within(list(), 40), api.ErrDeep},
		{"41, a num in them", within(num(1), 40), api.ErrDeep},
		{"41, a text in them", within(text(""), 40), api.ErrDeep},
		{"many in the deepest one", within(list(num(1), num(2), num(3)), 38), api.OK},
		{"the second one is the deepest", list(num(1), within(num(1), 39), num(2)), api.ErrDeep},
		{"what may not be, deeper than 40", within(api.Item{}, 50), api.ErrArg},
		{"what may not be, behind the deep one", list(within(num(1), 60), api.Item{}), api.ErrArg},
		{"what may not be, ahead of the deep one", list(api.Item{}, within(num(1), 60)), api.ErrArg},
		{"what may not be, outermost", api.Item{Kind: api.List, N: 1, L: []api.Item{within(num(1), 60)}}, api.ErrArg},
	} {
		if got := wire.Check(x.v); got != x.want {
			t.Errorf("%s: got %d, want %d", x.name, got, x.want)
		}
	}
}

// P1.1: the same Kind, N, S, and items; of any items.
func TestSame(t *testing.T) {
	odd := api.Item{Kind: 9, N: 3, S: "x", L: []api.Item{num(1)}}
	for _, x := range []struct {
		name string
		a, b api.Item
		want bool
	}{
		{"nums", num(5), num(5), true},
		{"texts", text("ab"), text("ab"), true},
		{"lists", list(num(1), list(text("x"))), list(num(1), list(text("x"))), true},
		{"lists of none", list(), list(), true},
		{"nil and empty", api.Item{Kind: api.List, L: []api.Item{}}, list(), true},
		{"nil and empty, inner", list(api.Item{Kind: api.List, L: []api.Item{}}), list(list()), true},
		{"nothing and nothing", api.Item{}, api.Item{}, true},
		{"what may not be", odd, api.Item{Kind: 9, N: 3, S: "x", L: []api.Item{num(1)}}, true},
		{"deep ones", within(num(1), 100), within(num(1), 100), true},

		{"another N", num(5), num(6), false},
		{"another N in the high bits", num(0), num(1 << 62), false},
		{"another S", text("ab"), text("ac"), false},
		{"a longer S", text("ab"), text("abc"), false},
		{"another Kind", text(""), list(), false},
		{"num and nothing", num(0), api.Item{}, false},
		{"one more", list(num(1)), list(num(1), num(2)), false},
		{"one less", list(num(1), num(2)), list(num(1)), false},
		{"another order", list(num(1), num(2)), list(num(2), num(1)), false},
		{"another last one", list(num(1), num(2)), list(num(1), num(3)), false},
		{"another one, inner", list(list(num(1)), num(2)), list(list(num(9)), num(2)), false},
		{"the same nums, other lists", list(list(num(1)), num(2)), list(list(num(1), num(2))), false},
		{"another depth", within(num(1), 3), within(num(1), 4), false},
		{"odd ones: another N", odd, api.Item{Kind: 9, N: 4, S: "x", L: []api.Item{num(1)}}, false},
		{"odd ones: another S", odd, api.Item{Kind: 9, N: 3, L: []api.Item{num(1)}}, false},
		{"odd ones: another L", odd, api.Item{Kind: 9, N: 3, S: "x", L: []api.Item{num(2)}}, false},
		{"num with and without L", api.Item{Kind: api.Num, L: []api.Item{num(1)}}, num(0), false},
		{"deep ones", within(num(1), 100), within(num(2), 100), false},
	} {
		if got := wire.Same(x.a, x.b); got != x.want {
			t.Errorf("%s: got %v", x.name, got)
		}
		if got := wire.Same(x.b, x.a); got != x.want {
			t.Errorf("%s, the other way round: got %v", x.name, got)
		}
	}
}

// P1.1: how many items there are, of any item.
func TestSize(t *testing.T) {
	for _, x := range []struct {
		name string
		v    api.Item
		want int
	}{
		{"num", num(9), 1},
		{"text", text("abc"), 1},
		{"list of none", list(), 1},
		{"list of two", list(num(1), text("x")), 3},
		{"lists in lists", list(num(1), list(num(2), list()), list(num(3))), 7},
		{"deep", within(num(1), 99), 100},
		{"nothing", api.Item{}, 1},
		{"a num that may not be", api.Item{Kind: api.Num, L: []api.Item{num(1), list(num(2))}}, 4},
	} {
		if got := wire.Size(x.v); got != x.want {
			t.Errorf("%s: got %d, want %d", x.name, got, x.want)
		}
	}
}

// R1: the calls end, however deep an item is: also where a call a level would need more stack than there is.
func TestVeryDeep(t *testing.T) {
	const lists = 200_000
	defer debug.SetMaxStack(debug.SetMaxStack(1 << 20))
	a, b, bad := within(num(1), lists), within(num(2), lists), within(api.Item{}, lists)
	if e := wire.Check(a); e != api.ErrDeep {
		t.Errorf("Check: got %d", e)
	}
	if e := wire.Check(bad); e != api.ErrArg {
		t.Errorf("Check of what may not be: got %d", e)
	}
	if n := wire.Size(a); n != lists+1 {
		t.Errorf("Size: got %d", n)
	}
	if !wire.Same(a, a) || wire.Same(a, b) {
		t.Error("Same")
	}
	if out, e := wire.Encode(a); len(out) != 0 || e != api.ErrDeep {
		t.Errorf("Encode: got %d bytes, %d", len(out), e)
	}
}

// R2: items that are handed in stay what they are.
func TestItemsAreLeftAlone(t *testing.T) {
	fresh := func() api.Item { return list(num(1), list(text("x"), list()), num(2)) }
	v := fresh()
	wire.Check(v)
	wire.Size(v)
	wire.Same(v, fresh())
	wire.Same(v, list(num(1), num(2)))
	wire.Encode(v)
	if !wire.Same(v, fresh()) {
		t.Errorf("got %v", v)
	}
}
