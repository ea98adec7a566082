package grow

// Way is how a thing is made, as soon as all that it needs are made.
type Way[T comparable] struct {
	Makes T
	Needs []T
}

// Made is all that is made by some ways.
func Made[T comparable](ways []Way[T]) Set[T] {
	m := maker[T]{Set[T]{}, map[T][]Way[T]{}}
	for _, w := range ways {
		m.take(w)
	}
	return m.made
}

// maker is what is made, and of each other thing the ways that wait for it: it is the first one that they need and that is not made.
// Each way waits for one thing at a time, and never goes back: so the whole takes about as many steps as things are needed.
type maker[T comparable] struct {
	made    Set[T]
	waiting map[T][]Way[T]
}

// take looks at a way, and at all that need not wait any longer because of it.
func (m *maker[T]) take(first Way[T]) {
	open := []Way[T]{first}
	for len(open) > 0 {
		last := len(open) - 1
		w := open[last]
		open = open[:last]
		for len(w.Needs) > 0 && m.made.Has(w.Needs[0]) {
			w.Needs = w.Needs[1:]
		}
		if len(w.Needs) > 0 {
			wanted := w.Needs[0]
			m.waiting[wanted] = append(m.waiting[wanted], w)
		} else if m.made.Add(w.Makes) {
			open = append(open, m.waiting[w.Makes]...)
		}
	}
}
