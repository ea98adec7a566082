package sets_test

import (
	"slices"
	"strconv"
	"strings"
	"testing"

	"quincunx/api"
	"quincunx/check"
	"quincunx/sets"
)

// doubles is a grammar of some rules, and of those of which each is twice the one ahead: D0 has one token, D1 two, Dn 2^n.
func doubles(first string, n int) string {
	s := first + " D0 = a ;"
	for i := 1; i <= n; i++ {
		twice := " D" + strconv.Itoa(i-1)
		s += " D" + strconv.Itoa(i) + " =" + twice + twice + " ;"
	}
	return s
}

// from are Dlow to Dhigh: 2^(high+1) - 2^low tokens.
func from(low, high int) string {
	var l []string
	for i := low; i <= high; i++ {
		l = append(l, "D"+strconv.Itoa(i))
	}
	return strings.Join(l, " ")
}

// P9.3: shortest sentences, up to and beyond the greatest number that is told.
func TestShortOfLongSentences(t *testing.T) {
	const most = 1<<31 - 1
	for _, x := range []struct {
		s    string
		n    int
		want int
	}{
		{"S = D10 ;", 10, 1 << 10},
		{"S = D30 ;", 30, 1 << 30},
		{"S = " + from(0, 29) + " ;", 29, 1<<30 - 1},
		{"S = D30 | D29 D28 D28 ;", 30, 1 << 30}, // two of one length
		{"S = D30 | " + from(0, 29) + " ;", 30, 1<<30 - 1},
		{"S = " + from(1, 30) + " | D31 ;", 31, most - 1},
		{"S = D31 | a " + from(2, 30) + " ;", 31, most - 2},
		{"S = T " + from(15, 30) + " | D31 ; T = " + from(0, 14) + " ;", 31, most},
		{"S = T | D31 ; T = " + from(1, 29) + " U ; U = D30 a | D31 ;", 31, most},
		{"S = D30 D30 ;", 30, most}, // one more than that
		{"S = D31 ;", 31, most},
		{"S = D31 a ;", 31, most},
		{"S = a D31 ;", 31, most},
		{"S = a D31 D31 a D31 a ;", 31, most},
		{"S = D32 ;", 32, most},
		{"S = D40 D40 D40 ;", 40, most},
		{"S = D58 ;", 58, most},
		{"S = D58 D58 | a D58 a | a a a ;", 58, 3}, // an alternative is short, though others are too long
		{"S = a a a | D58 ;", 58, 3},
		{"S = D58 | ;", 58, 0},
		{"S =" + strings.Repeat(" D58", 30) + " ;", 58, most},
	} {
		c := read(t, doubles(x.s, x.n), "a")
		got := sets.Short(c)
		if got[0] != x.want {
			t.Errorf("%s: got %d, want %d", x.s, got[0], x.want)
		}
		for i := range x.n + 1 {
			if want := min(1<<i, most); got[len(got)-x.n-1+i] != want {
				t.Errorf("%s: D%d: got %d, want %d", x.s, i, got[len(got)-x.n-1+i], want)
			}
		}
	}
}

// P9.3: each rule is 30 times the one behind it: all but the last few are beyond what 64 bits hold.
func TestShortOfLongestSentences(t *testing.T) {
	c := great(60, 1, func(r int) [][]int { return [][]int{slices.Repeat([]int{-2 - r}, 30)} })
	c.Alts[59] = [][]int{{0, 0}, {0}}
	if e := check.Valid(c); e != api.OK {
		t.Fatalf("may not be: %d", e)
	}
	for r, got := range sets.Short(c) {
		want := 1
		for range 59 - r {
			want = min(30*want, 1<<31-1)
		}
		if got != want {
			t.Errorf("R%d: got %d, want %d", r, got, want)
		}
	}
}

// P9.3: a rule's own place within its alternatives is not what makes it short.
func TestShortOfRulesWithinThemselves(t *testing.T) {
	for _, x := range []struct {
		s    string
		want []int
	}{
		{"S = a S | b b b ;", []int{3}},
		{"S = S | S S | a S a | b b ;", []int{2}},
		{"S = T a | b b b b b b ; T = U a | b b b b ; U = S a | b ;", []int{3, 2, 1}},
		{"S = T a | b ; T = U a | b b b b b b ; U = S a | b b b b ;", []int{1, 3, 2}}, // around, from the first one
		{"S = T | a a a a a ; T = U | a a a a ; U = V | a a a ; V = W | a a ; W = a | S ;", []int{1, 1, 1, 1, 1}},
		{"S = T T | a a a a a ; T = U U ; U = S | a ;", []int{4, 2, 1}},
		{"S = T T | a a a ; T = U U ; U = S | a ;", []int{3, 2, 1}},
		{"S = T U ; T = a b | a S ; U = | b ;", []int{2, 2, 0}},
	} {
		if got := sets.Short(read(t, x.s, "a b")); !slices.Equal(got, x.want) {
			t.Errorf("%q: got %v, want %v", x.s, got, x.want)
		}
	}
}
