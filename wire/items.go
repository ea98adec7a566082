package wire

import (
	"quincunx/api"
	"quincunx/nest"
)

// Check tells whether an item may be, and is not too deep.
func Check(v api.Item) api.Errno {
	e := api.OK
	for depth, x := range nest.All(v, items) {
		if !plain(x) {
			return api.ErrArg
		}
		if depth > api.MaxDeep {
			// Not at once: what may not be is told ahead of what is too deep, and may come later.
			e = api.ErrDeep
		}
	}
	return e
}

// Same tells whether two items are the same, whether or not they may be.
func Same(a, b api.Item) bool {
	return nest.Same(a, b, items, alike)
}

// Size is how many items there are in one, itself counted.
func Size(v api.Item) int {
	n := 0
	for range nest.All(v, items) {
		n++
	}
	return n
}

func items(v api.Item) []api.Item { return v.L }

// alike tells whether two items are the same, but for their lists.
func alike(a, b api.Item) bool {
	return a.Kind == b.Kind && a.N == b.N && a.S == b.S
}

// plain tells whether an item has just what its kind has; what its list's items have is not looked into.
func plain(v api.Item) bool {
	switch v.Kind {
	case api.Num:
		return v.S == "" && len(v.L) == 0
	case api.Text:
		return v.N == 0 && len(v.L) == 0
	case api.List:
		return v.N == 0 && v.S == ""
	}
	return false
}
