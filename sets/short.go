package sets

import (
	"math"
	"slices"

	"quincunx/api"
)

// most is told of all that is longer, too.
const most = math.MaxInt32

// Short is of each rule how many tokens its shortest sentence has.
// One of the derivations of that has no rule within itself: so there is one round more than there are rules, at the most.
func Short(c api.Cfg) []int {
	if !fits(c) {
		return nil
	}
	short := slices.Repeat([]int{most}, len(c.Alts))
	for shrank := true; shrank; {
		shrank = false
		for r, alts := range c.Alts {
			for _, alt := range alts {
				if n := length(alt, short); n < short[r] {
					short[r], shrank = n, true
				}
			}
		}
	}
	return short
}

// length is how many tokens come from an alternative, if so many come from each rule.
func length(alt, short []int) int {
	sum := 0
	for _, n := range alt {
		if n < 0 {
			sum += short[ruleOf(n)]
		} else {
			sum++
		}
	}
	return sum
}
