package check

import (
	"slices"

	"quincunx/api"
	"quincunx/grow"
)

// Flaws tells what is wrong with a grammar, kind by kind. The grammar may be any: of any names, and of any length.
func Flaws(g api.Grammar, tokens []string) []api.Flaw {
	var l []api.Flaw
	told := grow.Set[api.Flaw]{}
	tell := func(kind int, name string) {
		flaw := api.Flaw{Kind: kind, Name: name}
		if told.Add(flaw) {
			l = append(l, flaw)
		}
	}
	known := grow.Set[string]{}
	for _, name := range tokens {
		known.Add(name)
	}
	for _, rule := range g.Rules {
		if !known.Add(rule.Name) {
			tell(api.Double, rule.Name)
		}
	}
	for _, rule := range g.Rules {
		for _, name := range namesIn(rule) {
			if !known.Has(name) {
				tell(api.Unknown, name)
			}
		}
	}
	tellOthers := func(kind int, right grow.Set[string]) {
		for _, rule := range g.Rules {
			if !right.Has(rule.Name) {
				tell(kind, rule.Name)
			}
		}
	}
	tellOthers(api.Barren, fertile(g, tokens))
	tellOthers(api.Idle, led(g))
	return l
}

// namesIn are the names in a rule's alternatives, as they stand there.
func namesIn(rule api.Rule) []string { return slices.Concat(rule.Alts...) }

// led are the names to which the first rule leads.
func led(g api.Grammar) grow.Set[string] {
	rules := map[string][]api.Rule{}
	for _, rule := range g.Rules {
		rules[rule.Name] = append(rules[rule.Name], rule)
	}
	var first []string
	if len(g.Rules) > 0 {
		first = append(first, g.Rules[0].Name)
	}
	return grow.Reach(first, func(name string, add func(...string)) {
		for _, rule := range rules[name] {
			add(namesIn(rule)...)
		}
	})
}
