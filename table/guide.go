package table

import (
	"slices"

	"quincunx/api"
	"quincunx/sets"
)

// guide is a grammar, and what follows each of its rules: that is reckoned once for all alternatives.
type guide struct {
	c      api.Cfg
	follow [][]int
}

func newGuide(c api.Cfg) guide { return guide{c, sets.Follow(c)} }

// rules is how many rules there are of which something is told.
func (g guide) rules() int { return len(g.follow) }

// takenAt is what an alternative is taken at, rising.
func (g guide) takenAt(r, alt int) []int {
	lead, empty := sets.Lead(g.c, g.c.Alts[r][alt])
	if !empty {
		return lead
	}
	all := slices.Concat(lead, g.follow[r])
	slices.Sort(all)
	return slices.Compact(all)
}

// takers are, for each token, and for the end, the alternatives of a rule that are taken at it, in order.
func (g guide) takers(r int) [][]int {
	out := make([][]int, len(g.c.Tokens)+1)
	for alt := range len(g.c.Alts[r]) {
		for _, token := range g.takenAt(r, alt) {
			out[token] = append(out[token], alt)
		}
	}
	return out
}
