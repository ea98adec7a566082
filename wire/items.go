package wire

import (
	"iter"

	"quincunx/api"
)

// Check tells whether an item may be, and is not too deep.
func Check(v api.Item) api.Errno {
	e := api.OK
	for depth, x := range all(v) {
		if !plain(x) {
			return api.ErrArg
		}
		if depth > api.MaxDeep {
			// Not at once: what may not be is told ahead of what is too deep, and may come later.
			e = api.ErrDeep
		}
	}
	return e
}

// Same tells whether two items are the same, whether or not they may be.
func Same(a, b api.Item) bool {
	open := []sides{{[]api.Item{a}, []api.Item{b}}}
	for len(open) > 0 {
		top := &open[len(open)-1]
		if len(top.a) == 0 {
			open = open[:len(open)-1]
			continue
		}
		x, y := top.a[0], top.b[0]
		if !alike(x, y) {
			return false
		}
		top.a, top.b = top.a[1:], top.b[1:]
		open = append(open, sides{x.L, y.L})
	}
	return true
}

// Size is how many items there are in one, itself counted.
func Size(v api.Item) int {
	n := 0
	for range all(v) {
		n++
	}
	return n
}

// sides are what is left of two lists of one length.
type sides struct{ a, b []api.Item }

// alike tells whether two items are the same, but for what their lists' items are.
func alike(a, b api.Item) bool {
	return a.Kind == b.Kind && a.N == b.N && a.S == b.S && len(a.L) == len(b.L)
}

// plain tells whether an item has just what its kind has; what its list's items have is not looked into.
func plain(v api.Item) bool {
	switch v.Kind {
	case api.Num:
		return v.S == "" && len(v.L) == 0
	case api.Text:
		return v.N == 0 && len(v.L) == 0
	case api.List:
		return v.N == 0 && v.S == ""
	}
	return false
}

// all goes through v and all that is in it, each ahead of its own list, with the depth at which it stands.
// What is open is a slice, not calls within calls: a caller's item may be deeper than a stack of calls can grow.
func all(v api.Item) iter.Seq2[int, api.Item] {
	return func(yield func(int, api.Item) bool) {
		open := [][]api.Item{{v}}
		for len(open) > 0 {
			depth := len(open)
			left := open[depth-1]
			if len(left) == 0 {
				open = open[:depth-1]
				continue
			}
			if !yield(depth, left[0]) {
				return
			}
			open[depth-1] = left[1:]
			open = append(open, left[0].L)
		}
	}
}
