package check

import (
	"slices"

	"quincunx/api"
)

// set is a set that grows.
type set[T comparable] map[T]struct{}

func (s set[T]) has(x T) bool {
	_, ok := s[x]
	return ok
}

// add puts x into the set, and tells whether it is new there.
func (s set[T]) add(x T) bool {
	if s.has(x) {
		return false
	}
	s[x] = struct{}{}
	return true
}

// Flaws tells what is wrong with a grammar, kind by kind. The grammar may be any: of any names, and of any length.
func Flaws(g api.Grammar, tokens []string) []api.Flaw {
	var l []api.Flaw
	told := set[api.Flaw]{}
	tell := func(kind int, name string) {
		flaw := api.Flaw{Kind: kind, Name: name}
		if told.add(flaw) {
			l = append(l, flaw)
		}
	}
	known := set[string]{}
	for _, name := range tokens {
		known.add(name)
	}
	for _, rule := range g.Rules {
		if !known.add(rule.Name) {
			tell(api.Double, rule.Name)
		}
	}
	for _, rule := range g.Rules {
		for _, name := range namesIn(rule) {
			if !known.has(name) {
				tell(api.Unknown, name)
			}
		}
	}
	tellOthers := func(kind int, right set[string]) {
		for _, rule := range g.Rules {
			if !right.has(rule.Name) {
				tell(kind, rule.Name)
			}
		}
	}
	tellOthers(api.Barren, fertile(g, tokens))
	tellOthers(api.Idle, led(g))
	return l
}

// namesIn are the names in a rule's alternatives, as they stand there.
func namesIn(rule api.Rule) []string { return slices.Concat(rule.Alts...) }

// led are the names to which the first rule leads.
func led(g api.Grammar) set[string] {
	rules := map[string][]api.Rule{}
	for _, rule := range g.Rules {
		rules[rule.Name] = append(rules[rule.Name], rule)
	}
	var open []string
	found := set[string]{}
	if len(g.Rules) > 0 {
		open = append(open, g.Rules[0].Name)
	}
	for len(open) > 0 {
		last := len(open) - 1
		name := open[last]
		open = open[:last]
		if !found.add(name) {
			continue
		}
		for _, rule := range rules[name] {
			open = append(open, namesIn(rule)...)
		}
	}
	return found
}
