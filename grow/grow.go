// Package grow finds all that comes of what is there, till nothing more does.
package grow

// Set is a set that grows.
type Set[T comparable] map[T]struct{}

// Has tells whether x is in the set.
func (s Set[T]) Has(x T) bool {
	_, ok := s[x]
	return ok
}

// Add puts x into the set, and tells whether it is new there.
func (s Set[T]) Add(x T) bool {
	if s.Has(x) {
		return false
	}
	s[x] = struct{}{}
	return true
}

// Reach is all of from, and all to which steps lead from there; next adds all to which one step leads.
func Reach[T comparable](from []T, next func(x T, add func(...T))) Set[T] {
	found := Set[T]{}
	var open []T
	add := func(l ...T) {
		for _, x := range l {
			if found.Add(x) {
				open = append(open, x)
			}
		}
	}
	add(from...)
	for len(open) > 0 {
		last := len(open) - 1
		x := open[last]
		open = open[:last]
		next(x, add)
	}
	return found
}
