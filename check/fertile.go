package check

import "quincunx/api"

// alternative is one of a rule's, of those of its names that were not looked at.
type alternative struct {
	rule  string
	names []string
}

// grower is the names that are known to be fertile, and of each other one the alternatives that wait for it: it is their first name that is not known to be fertile.
// Each alternative waits for one name at a time, and never goes back: so the whole takes about as many steps as there are names.
type grower struct {
	fertile set[string]
	waiting map[string][]alternative
}

// fertile are the names from which a sentence comes.
func fertile(g api.Grammar, tokens []string) set[string] {
	w := grower{set[string]{}, map[string][]alternative{}}
	for _, name := range tokens {
		w.take(alternative{rule: name}) // a token waits for nothing, as an empty alternative
	}
	for _, rule := range g.Rules {
		for _, alt := range rule.Alts {
			w.take(alternative{rule.Name, alt})
		}
	}
	return w.fertile
}

// take looks at an alternative, and at all that need not wait any longer because of it.
func (w *grower) take(first alternative) {
	open := []alternative{first}
	for len(open) > 0 {
		last := len(open) - 1
		x := open[last]
		open = open[:last]
		for len(x.names) > 0 && w.fertile.has(x.names[0]) {
			x.names = x.names[1:]
		}
		if len(x.names) > 0 {
			wanted := x.names[0]
			w.waiting[wanted] = append(w.waiting[wanted], x)
		} else if w.fertile.add(x.rule) {
			open = append(open, w.waiting[x.rule]...)
		}
	}
}
