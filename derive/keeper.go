package derive

import (
	"quincunx/api"
	"quincunx/grow"
)

// keeper keeps the sentences of a grammar's numbers: of a token itself, of a rule all up to some length.
// Going down a derivation, all tokens come of a single number while what stands beside it comes to nothing; then that one is a token, or they are parted among several, of which each has fewer. So parted ones are made first, of shorter ones, and then passed on to the rules above.
type keeper struct {
	c      api.Cfg
	short  []int
	within []grow.Set[int] // of each rule its number, and those of which alone all may come
	kept   map[int]list
}

// newKeeper keeps tokens, and empty sentences.
func newKeeper(c api.Cfg, short []int) keeper {
	k := keeper{c, short, nil, map[int]list{}}
	for n := range c.Tokens {
		k.kept[n] = list{{1, [maxLong]byte{byte(n)}}}
	}
	for r := range c.Alts {
		n := numberOf(r)
		if short[r] == 0 {
			k.kept[n] = list{{}}
		}
		k.within = append(k.within, grow.Reach([]int{n}, k.alone))
	}
	return k
}

// alone adds the rules that stand in an alternative of a rule beside nothing but what may be empty.
func (k keeper) alone(n int, add func(...int)) {
	for _, alt := range k.c.Alts[ruleOf(n)] {
		all := k.shortest(alt...)
		for _, m := range alt {
			if m < 0 && k.shortest(m) == all {
				add(m)
			}
		}
	}
}

// shortest is how many tokens the shortest sentence of seq has.
func (k keeper) shortest(seq ...int) int {
	sum := 0
	for _, n := range seq {
		if n < 0 {
			sum += k.short[ruleOf(n)]
		} else {
			sum++
		}
	}
	return sum
}

// grow keeps all sentences of so many tokens, if those with fewer are kept. It tells whether no rule has too many.
func (k keeper) grow(long int) bool {
	parted := map[int]list{}
	for r, alts := range k.c.Alts {
		var l list
		for _, alt := range alts {
			if all, ok := k.made(alt, long); !ok || !l.keepAll(all) {
				return false
			}
		}
		parted[numberOf(r)] = l
	}
	for r, others := range k.within {
		l := k.kept[numberOf(r)]
		for n := range others {
			if !l.keepAll(parted[n]) {
				return false
			}
		}
		k.kept[numberOf(r)] = l
	}
	return true
}

// made are the sentences of an alternative, of at most so many tokens, that are made of what is kept. It tells whether they are not too many.
// No beginning is made that is too long for the rest to stand behind it: so each one begins another sentence of the rule, and if they are too many, so are those.
func (k keeper) made(alt []int, long int) (list, bool) {
	l, ok := list{{}}, true
	rest := k.shortest(alt...)
	for _, n := range alt {
		rest -= k.shortest(n)
		if l, ok = l.then(k.kept[n], long-rest); !ok {
			return nil, false
		}
	}
	return l, true
}
