package check

import (
	"quincunx/api"
	"quincunx/grow"
)

// fertile are the names from which a sentence comes.
func fertile(g api.Grammar, tokens []string) grow.Set[string] {
	var ways []grow.Way[string]
	for _, name := range tokens {
		ways = append(ways, grow.Way[string]{Makes: name}) // a token needs nothing, as an empty alternative
	}
	for _, rule := range g.Rules {
		for _, alt := range rule.Alts {
			ways = append(ways, grow.Way[string]{Makes: rule.Name, Needs: alt})
		}
	}
	return grow.Made(ways)
}
