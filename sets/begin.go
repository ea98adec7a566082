package sets

import (
	"cmp"
	"maps"
	"slices"

	"quincunx/api"
	"quincunx/grow"
)

// nullable tells of each rule whether the empty sentence comes from it.
// A rule is made by each alternative all of whose rules are made, and a token by none.
func nullable(c api.Cfg) []bool {
	var ways []grow.Way[int]
	for r, alts := range c.Alts {
		for _, alt := range alts {
			ways = append(ways, grow.Way[int]{Makes: numberOf(r), Needs: alt})
		}
	}
	out := make([]bool, len(c.Alts))
	for n := range grow.Made(ways) {
		out[ruleOf(n)] = true
	}
	return out
}

// beginner tells with what begins what comes from a grammar's numbers.
type beginner struct {
	alts     [][][]int
	nullable []bool
}

func newBeginner(c api.Cfg) beginner { return beginner{c.Alts, nullable(c)} }

// ahead are the numbers of seq that stand first in something that comes from it: up to the first one that is never empty, that one too. It tells also whether they are all of seq, and may all be empty.
func (b beginner) ahead(seq []int) ([]int, bool) {
	for i, n := range seq {
		if n >= 0 || !b.nullable[ruleOf(n)] {
			return seq[:i+1], false
		}
	}
	return seq, true
}

// tokens are those with which begins what comes from one of the numbers. The end is as a token here.
func (b beginner) tokens(numbers []int) []int {
	reached := grow.Reach(numbers, func(n int, add func(...int)) {
		if n >= 0 {
			return
		}
		for _, alt := range b.alts[ruleOf(n)] {
			first, _ := b.ahead(alt)
			add(first...)
		}
	})
	maps.DeleteFunc(reached, func(n int, _ struct{}) bool { return n < 0 })
	return ordered(reached)
}

// neighbours are of each rule the numbers that stand right behind it in an alternative, or behind it and what may be empty, and the rules in one of whose alternatives it stands last, or ahead of what may be empty alone.
func (b beginner) neighbours() (behind, lastIn []grow.Set[int]) {
	for range b.alts {
		behind, lastIn = append(behind, grow.Set[int]{}), append(lastIn, grow.Set[int]{})
	}
	grows := func(r, in int, rest []int) {
		l, all := b.ahead(rest)
		for _, n := range l {
			behind[r].Add(n)
		}
		if all {
			lastIn[r].Add(in)
		}
	}
	for in, alts := range b.alts {
		for _, alt := range alts {
			for i, n := range alt {
				if n < 0 {
					grows(ruleOf(n), in, alt[i+1:])
				}
			}
		}
	}
	return behind, lastIn
}

// ordered is a set's elements, rising.
func ordered[T cmp.Ordered](s grow.Set[T]) []T { return slices.Sorted(maps.Keys(s)) }
