package table_test

import (
	"math/bits"
	"math/rand"
	"slices"
	"testing"

	"quincunx/api"
	"quincunx/check"
	"quincunx/table"
)

// anyCfg is a grammar by numbers, of up to so many rules, alternatives of each, and numbers of each of these; there may be one.
func anyCfg(r *rand.Rand, rules, alts, long int) api.Cfg {
	for {
		c := api.Cfg{Tokens: []string{"a", "b", "c", "d", "e"}[:r.Intn(6)], Names: []string{"S", "T", "U", "V", "W"}[:1+r.Intn(rules)]}
		for range c.Names {
			var l [][]int
			for range 1 + r.Intn(alts) {
				var alt []int
				for range r.Intn(long + 1) {
					alt = append(alt, r.Intn(len(c.Names)+len(c.Tokens))-len(c.Names))
				}
				l = append(l, alt)
			}
			c.Alts = append(c.Alts, l)
		}
		if check.Valid(c) == api.OK {
			return c
		}
	}
}

// empty is the bit that stands for the empty sentence; a token's, and the end's, is the one of its number.
const empty = uint64(1) << 63

// textbook are a grammar's sets of bits, by the textbook's rules, gone through in rounds.
type textbook struct {
	c             api.Cfg
	begin, follow []uint64 // of each rule
}

func textbookOf(c api.Cfg) textbook {
	b := textbook{c, make([]uint64, len(c.Alts)), make([]uint64, len(c.Alts))}
	b.follow[0] = 1 << len(c.Tokens)
	for was := []uint64(nil); ; {
		for r, alts := range c.Alts {
			for _, alt := range alts {
				b.begin[r] |= b.of(alt)
				for i, n := range alt {
					if n < 0 {
						b.follow[-1-n] |= b.ahead(alt[i+1:], r)
					}
				}
			}
		}
		is := slices.Concat(b.begin, b.follow)
		if slices.Equal(was, is) {
			return b
		}
		was = is
	}
}

// of are the tokens that begin sentences of a list, and whether the empty one is among these.
func (b textbook) of(seq []int) uint64 {
	set := empty
	for _, n := range seq {
		if set&empty == 0 {
			break
		}
		next := empty
		if n < 0 {
			next = b.begin[-1-n]
		} else {
			next = 1 << n
		}
		set = set&^empty | next
	}
	return set
}

// ahead are the tokens, and the end, that come first where a list ends an alternative of a rule.
func (b textbook) ahead(seq []int, rule int) uint64 {
	set := b.of(seq)
	if set&empty != 0 {
		set = set&^empty | b.follow[rule]
	}
	return set
}

// isLL tells whether the condition of P10.4 holds.
func (b textbook) isLL() bool {
	for r, alts := range b.c.Alts {
		for i, one := range alts {
			for _, other := range alts[i+1:] {
				x, y := b.of(one), b.of(other)
				if x&y != 0 || x&empty != 0 && b.follow[r]&y != 0 || y&empty != 0 && b.follow[r]&x != 0 {
					return false
				}
			}
		}
	}
	return true
}

// clashes are those of P10.2.
func (b textbook) clashes() []api.Clash {
	var l []api.Clash
	for r, alts := range b.c.Alts {
		for token := range len(b.c.Tokens) + 1 {
			for i := range alts {
				for j := range alts {
					if i < j && (b.ahead(alts[i], r)&b.ahead(alts[j], r))>>token&1 == 1 {
						l = append(l, api.Clash{Rule: r, Token: token, A: i, B: j})
					}
				}
			}
		}
	}
	return l
}

// table is that of a grammar without clashes.
func (b textbook) table() [][]int {
	l := make([][]int, len(b.c.Alts))
	for r, alts := range b.c.Alts {
		l[r] = slices.Repeat([]int{-1}, len(b.c.Tokens)+1)
		for alt, seq := range alts {
			for _, n := range numbersOf(b.ahead(seq, r)) {
				l[r][n] = alt
			}
		}
	}
	return l
}

// numbersOf are the numbers of bits, rising.
func numbersOf(set uint64) []int {
	var l []int
	for ; set != 0; set &= set - 1 {
		l = append(l, bits.TrailingZeros64(set))
	}
	return l
}

// P10.1, P10.2, P10.3, P10.4: many grammars, with clashes and without.
func TestByTextbook(t *testing.T) {
	r := rand.New(rand.NewSource(1))
	without := 0
	for i := range 30000 {
		c := anyCfg(r, 1+i%5, 2+i%3, 1+i%4)
		b := textbookOf(c)
		for k, alts := range c.Alts {
			for alt, seq := range alts {
				if got, want := table.Predict(c, k, alt), numbersOf(b.ahead(seq, k)); !slices.Equal(got, want) {
					t.Fatalf("%v: %d, %d: got %v, want %v", c, k, alt, got, want)
				}
			}
		}
		clashes := table.Clashes(c)
		if want := b.clashes(); !slices.Equal(clashes, want) {
			t.Fatalf("%v: got %v, want %v", c, clashes, want)
		}
		if b.isLL() != (len(clashes) == 0) {
			t.Fatalf("%v: got %v, but the condition is %v", c, clashes, b.isLL())
		}
		got, e := table.Build(c)
		if len(clashes) > 0 {
			if e != api.ErrClash || got != nil {
				t.Fatalf("%v: got %v, %d", c, got, e)
			}
			continue
		}
		without++
		if want := b.table(); e != api.OK || !slices.EqualFunc(got, want, slices.Equal) {
			t.Fatalf("%v: got %v, %d, want %v", c, got, e, want)
		}
	}
	if without < 3000 {
		t.Errorf("only %d have no clashes", without)
	}
}

// takes tells whether a table leads from a list of numbers to tokens.
func takes(c api.Cfg, l [][]int, seq, toks []int) bool {
	for len(seq) > 0 {
		next := len(c.Tokens)
		if len(toks) > 0 {
			next = toks[0]
		}
		n := seq[0]
		switch {
		case n == next:
			seq, toks = seq[1:], toks[1:]
		case n >= 0 || l[-1-n][next] == -1:
			return false
		default:
			seq = slices.Concat(c.Alts[-1-n][l[-1-n][next]], seq[1:])
		}
	}
	return len(toks) == 0
}

// comes tells whether tokens come from a list of numbers by steps. No rule may begin with itself; without clashes none does.
func comes(c api.Cfg, seq, toks []int) bool {
	if len(seq) == 0 {
		return len(toks) == 0
	}
	if n := seq[0]; n >= 0 {
		return len(toks) > 0 && toks[0] == n && comes(c, seq[1:], toks[1:])
	}
	return slices.ContainsFunc(c.Alts[-1-seq[0]], func(alt []int) bool { return comes(c, slices.Concat(alt, seq[1:]), toks) })
}

// P10.3: by a table one takes just the sentences.
func TestTablesTakeSentences(t *testing.T) {
	r := rand.New(rand.NewSource(2))
	sentences, others := 0, 0
	for grammars := 0; grammars < 300; {
		c := anyCfg(r, 4, 3, 3)
		l, e := table.Build(c)
		if e != api.OK || len(c.Tokens) > 3 {
			continue
		}
		grammars++
		all := [][]int{nil}
		for k := 0; k < len(all); k++ {
			is := comes(c, []int{-1}, all[k])
			if takes(c, l, []int{-1}, all[k]) != is {
				t.Fatalf("%v: %v: by the table it is not %v", c, all[k], is)
			}
			if is {
				sentences++
			} else {
				others++
			}
			for n := 0; n < len(c.Tokens) && len(all[k]) < 5; n++ {
				all = append(all, append(slices.Clone(all[k]), n))
			}
		}
	}
	if sentences < 500 || others < 500 {
		t.Errorf("only %d are sentences, %d are not", sentences, others)
	}
}
