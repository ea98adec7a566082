package derive

import (
	"cmp"
	"math/bits"
	"slices"
)

// places is a set of places in a list of tokens, in words of 64 places, rising; a word without places is not kept.
// One rule's sentences may end at all places behind one, and many sets are joined: so they are joined by words.
type places []word

// word is the places n*64 and on, a bit for each.
type word struct {
	n    int
	bits uint64
}

// only is one place.
func only(at int) places { return places{{at / 64, 1 << (at % 64)}} }

// find tells where the word n is, or would be, and whether it is there.
func (p places) find(n int) (int, bool) {
	return slices.BinarySearchFunc(p, n, func(w word, n int) int { return cmp.Compare(w.n, n) })
}

func (p places) has(at int) bool {
	i, is := p.find(at / 64)
	return is && p[i].bits>>(at%64)&1 == 1
}

// each goes through all places, rising.
func (p places) each(yield func(at int) bool) {
	for _, w := range p {
		for left := w.bits; left != 0; left &= left - 1 {
			if !yield(w.n*64 + bits.TrailingZeros64(left)) {
				return
			}
		}
	}
}

// join puts the places of others among these, and answers those that are new there.
func (p *places) join(others places) places {
	var fresh places
	i := 0
	for _, w := range others {
		if i == len(*p) || (*p)[i].n != w.n { // mostly the next word is the one
			on, is := (*p)[i:].find(w.n)
			i += on
			if !is {
				*p = slices.Insert(*p, i, word{n: w.n})
			}
		}
		if grown := w.bits &^ (*p)[i].bits; grown != 0 {
			(*p)[i].bits |= grown
			fresh = append(fresh, word{w.n, grown})
		}
		i++
	}
	return fresh
}
