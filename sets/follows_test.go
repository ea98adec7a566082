package sets_test

import (
	"fmt"
	"math/rand"
	"slices"
	"testing"

	"quincunx/sets"
)

// isPart tells whether each of a is in b.
func isPart(a, b []int) bool {
	return !slices.ContainsFunc(a, func(n int) bool { return !slices.Contains(b, n) })
}

// P9.4: what follows from the promises.
func TestWhatFollows(t *testing.T) {
	r := rand.New(rand.NewSource(3))
	for i := range 8000 {
		c := anyCfg(r, 1+i%5, 3, 4)
		nullable, first, follow, short := sets.Nullable(c), sets.First(c), sets.Follow(c), sets.Short(c)
		for k, alts := range c.Alts {
			if nullable[k] != (short[k] == 0) {
				t.Fatalf("%v: %s: %v, %d", c, c.Names[k], nullable[k], short[k])
			}
			var leads []int
			some := false
			for _, alt := range alts {
				lead, empty := sets.Lead(c, alt)
				leads, some = append(leads, lead...), some || empty
				for j, n := range alt {
					if n >= 0 {
						continue
					}
					behind, empty := sets.Lead(c, alt[j+1:])
					if !isPart(behind, follow[-1-n]) || empty && !isPart(follow[k], follow[-1-n]) {
						t.Fatalf("%v: %v at %d: %v, %v, but %v follow", c, alt, j, behind, empty, follow[-1-n])
					}
				}
			}
			slices.Sort(leads)
			if !slices.Equal(slices.Compact(leads), first[k]) || some != nullable[k] {
				t.Fatalf("%v: %s: %v lead, but %v are first; %v, %v", c, c.Names[k], leads, first[k], some, nullable[k])
			}
		}
		if !slices.Contains(follow[0], len(c.Tokens)) {
			t.Fatalf("%v: %v", c, follow)
		}
	}
}

// R2, R5: what was handed in stays what it is, and the same comes again.
func TestCallsChangeNothing(t *testing.T) {
	r := rand.New(rand.NewSource(4))
	for range 500 {
		c := anyCfg(r, 5, 3, 4)
		seq := anySeq(r, c, 4)
		was := fmt.Sprint(c, seq)
		once := func() string {
			lead, empty := sets.Lead(c, seq)
			return fmt.Sprint(sets.Nullable(c), sets.First(c), sets.Follow(c), sets.Short(c), lead, empty)
		}
		if one, other := once(), once(); one != other {
			t.Fatalf("%s: got %s, then %s", was, one, other)
		}
		if is := fmt.Sprint(c, seq); is != was {
			t.Fatalf("%s: now %s", was, is)
		}
	}
}

// R2: what is answered is the caller's: it shares nothing with what was asked of, nor do two lists of it.
func TestListsShareNothing(t *testing.T) {
	c := read(t, "S = A S B | a ; A = S | b ; B = A | a | ;", "a b")
	seq := []int{0, -2}
	was := fmt.Sprint(c, seq)
	lead, _ := sets.Lead(c, seq)
	lead[0] = 7
	for _, all := range [][][]int{sets.First(c), sets.Follow(c)} {
		for i, l := range all {
			_ = append(l, 8, 8, 8)
			want := fmt.Sprint(all[:i], all[i+1:])
			for j := range l {
				l[j] = 9
			}
			if got := fmt.Sprint(all[:i], all[i+1:]); got != want {
				t.Errorf("got %s, want %s", got, want)
			}
		}
	}
	sets.Nullable(c)[0], sets.Short(c)[0] = true, 9
	if got, want := told(c), "S: a b / a b $ / 1; A: a b / a b $ / 1; B?: a b / a b $ / 0"; got != want {
		t.Errorf("got %s, want %s", got, want)
	}
	if is := fmt.Sprint(c, seq); is != was {
		t.Errorf("now %s", is)
	}
}
