// Package nest goes through things that hold lists of their own kind, however deep they are.
package nest

import "iter"

// All goes through v and all that is in it, each ahead of its own list, with the depth at which it stands (v's is 1); in tells a thing's list.
// What is open is a slice, not calls within calls: a caller's thing may be deeper than a stack of calls can grow.
func All[T any](v T, in func(T) []T) iter.Seq2[int, T] {
	return func(yield func(int, T) bool) {
		open := [][]T{{v}}
		for len(open) > 0 {
			depth := len(open)
			left := open[depth-1]
			if len(left) == 0 {
				open = open[:depth-1]
				continue
			}
			if !yield(depth, left[0]) {
				return
			}
			open[depth-1] = left[1:]
			open = append(open, in(left[0]))
		}
	}
}

// Same tells whether two things are the same: they are alike, and have as many in their lists, each the same.
func Same[T any](a, b T, in func(T) []T, alike func(a, b T) bool) bool {
	open := []sides[T]{{[]T{a}, []T{b}}}
	for len(open) > 0 {
		top := &open[len(open)-1]
		if len(top.a) == 0 {
			open = open[:len(open)-1]
			continue
		}
		x, y := top.a[0], top.b[0]
		next := sides[T]{in(x), in(y)}
		if len(next.a) != len(next.b) || !alike(x, y) {
			return false
		}
		top.a, top.b = top.a[1:], top.b[1:]
		open = append(open, next)
	}
	return true
}

// sides are what is left of two lists of one length.
type sides[T any] struct{ a, b []T }
