package stack

import (
	"slices"

	"quincunx/api"
)

// joined is one list of all, in memory of its own, also of a single one: whoever has the others may write into them.
func joined(lists ...[]int) []int { return slices.Concat(lists...) }

// told is the pairs, if these are.
func told(are bool, pairs ...api.Pair) ([]api.Pair, bool) {
	if !are {
		return nil, false
	}
	return pairs, true
}

func bothHaveFirst(p api.Pair) bool { return len(p.A) > 0 && len(p.B) > 0 }

// rest is what is left of a pair without both first numbers.
func rest(p api.Pair) api.Pair { return api.Pair{A: joined(p.A[1:]), B: joined(p.B[1:])} }

// altsOfFirst are the alternatives of the rule whose number stands first in a list, and whether there is such a rule; it need not have a name.
func altsOfFirst(c api.Cfg, l []int) ([][]int, bool) {
	if len(l) == 0 || l[0] >= 0 || ruleOf(l[0]) >= len(c.Alts) {
		return nil, false
	}
	return c.Alts[ruleOf(l[0])], true
}

func ruleOf(number int) int { return -1 - number }
