package derive

import (
	"bytes"
	"cmp"
	"slices"

	"quincunx/api"
)

// maxLong is how many tokens of a sentence are asked for at the most.
const maxLong = 8

// sentence is so many tokens. There are at most api.MaxRules of them in a grammar: a byte holds one's number.
type sentence struct {
	long int
	toks [maxLong]byte
}

// then is a sentence, and another one behind it; both together may not be too long.
func (s sentence) then(t sentence) sentence {
	copy(s.toks[s.long:], t.toks[:t.long])
	s.long += t.long
	return s
}

// compare puts shorter ones first, and those of one length in order.
func (s sentence) compare(t sentence) int {
	if s.long != t.long {
		return cmp.Compare(s.long, t.long)
	}
	return bytes.Compare(s.toks[:], t.toks[:])
}

// list is sentences, each once, in order.
type list []sentence

// keep puts a sentence at its place, if it is not there. It tells whether they are not too many, as all that keep more do.
func (l *list) keep(s sentence) bool {
	at, is := slices.BinarySearchFunc(*l, s, sentence.compare)
	if !is {
		*l = slices.Insert(*l, at, s)
	}
	return len(*l) <= api.MaxSentences
}

func (l *list) keepAll(others list) bool {
	for _, s := range others {
		if !l.keep(s) {
			return false
		}
	}
	return true
}

// then is each sentence with each of others behind it, as far as both together are not too long.
func (l list) then(others list, long int) (list, bool) {
	var out list
	for _, s := range l {
		for _, t := range others {
			if s.long+t.long > long {
				break
			}
			if !out.keep(s.then(t)) {
				return nil, false
			}
		}
	}
	return out, true
}

// numbers are the sentences as lists of tokens' numbers.
func (l list) numbers() [][]int {
	out := make([][]int, len(l))
	for i, s := range l {
		out[i] = make([]int, s.long)
		for at := range s.long {
			out[i][at] = int(s.toks[at])
		}
	}
	return out
}
