package least_test

import (
	"math/rand"
	"slices"
	"strings"
	"testing"

	"quincunx/api"
	"quincunx/dfa"
	"quincunx/least"
)

// P5.3: by which text expressions' automata are told apart.
func TestApartOfExpressions(t *testing.T) {
	for _, x := range []struct{ a, b, want string }{
		{"a*", "a+", ""}, // the chapter's examples
		{"a", "a|bc", "bc"},
		{"a", "b", "a"},
		{"b", "c", "b"},
		{"ab", "ac", "ab"},
		{"ba|ab", "ba", "ab"},
		{"ba|ab", "ab", "ba"},
		{"aaa|b", "aaa", "b"}, // the shortest one, not the first of all
		{"aaab|b", "c|aaab", "b"},
		{"(ab)*", "(ab)?", "abab"},
		{"a*", "(aa)*", "a"},
		{"a*", "a?a?a?", "aaaa"},
		{".", `[\x00-\xff]`, "\n"},
		{`[\x00-\xff]*`, `[\x00-\xfe]*`, "\xff"},
		{`[^\x00]`, `.|\n`, "\x00"},
		{"[a-f]x", "[a-f][xy]", "ay"},
		{"[a-f]x|cy", "[a-f]x", "cy"},
		{"(a|b)*abb", "(a|b)*bb", "bb"},
		{"(a|b)*a(a|b)(a|b)", "(a|b)*a(a|b)b", "aaa"},
		{"a|bc", "a", "bc"},
	} {
		a, b := made(t, x.a), made(t, x.b)
		if got, differ, e := least.Apart(a, b); got != x.want || !differ || e != api.OK {
			t.Errorf("%q and %q: got %q, %v, %d, want %q", x.a, x.b, got, differ, e, x.want)
		}
		if got, differ, e := least.Apart(b, a); got != x.want || !differ || e != api.OK {
			t.Errorf("%q and %q: got %q, %v, %d, want %q", x.b, x.a, got, differ, e, x.want)
		}
	}
}

// P5.3: of automata that no expression makes, and of those that come to the same.
func TestApart(t *testing.T) {
	for _, x := range []struct {
		name, a, b, want string
		differ           bool
	}{
		{"the same", "0 a0", "0 a0", "", false},
		{"nothing at all", "-1", "-1", "", false},
		{"nothing, by moves", "-1", "-1 a1; -1 \\-~0", "", false},
		{"what accepts, and what does not", "0", "-1", "", true},
		{"another number", "0", "1", "", true},
		{"another number, later", "0 a1; 1", "0 a1; 2", "a", true},
		{"a move to what is dead", "0 a1; -1", "0", "", false},
		{"a move to what accepts", "0 a1; 0", "0", "a", true},
		{"a state more", "0 a0", "0 a1; 0 a1", "", false},
		{"another order", "-1 a1 b2; 0; 1", "-1 a2 b1; 1; 0", "", false},
		{"nothing leads to what differs", "0 a0; 1", "0 a0; 2 b0", "", false},
		{"the byte 0", "0 \\0", "0", "\x00", true},
		{"the byte 255", "0 a0 ~0", "0 a0", "\xff", true},
		{"the first byte of several", "0 b-d0", "0", "b", true},
		{"the first one that goes elsewhere", "0 b-d1; 1", "0 c-e1; 1", "b", true},
		{"behind it", "0 b-d1; 1", "0 a-c1; 1", "a", true},
		{"between others", "0 a-z1; 1", "0 a-k1 m-z1; 1", "l", true},
		{"the last one", "0 a-z1; 1", "0 a-y1; 1", "z", true},
		{"dead, and none", "0 a1; -1 a1 b0", "0", "ab", true},
		{"rings of 2 and 3", "0 x1; -1 x0", "0 x1; -1 x2; -1 x0", "xx", true},
		{"rings of 2 and 4", "0 x1; -1 x0", "0 x1; -1 x2; 0 x3; -1 x0", "", false},
		{"a longer one that is ahead byte by byte", "0 a1 b2; 0 a3; 1; 4", "0 a1 b2; 0 a3; 2; 5", "b", true},
		{"of one length, the first one", "-1 a1 b2; -1 c3; -1 a3; 0", "-1 a1 b2; -1 c3; -1 a3; 1", "ac", true},
		{"of one length, by what differs alone", "-1 a1 b2; -1 c3; -1 a3; 0", "-1 a1 b2; -1 c3; -1 a4; 0; 1", "ba", true},
		{"a pair that was met by another way", "-1 a-b1; -1 c2 d3; 0; 1", "-1 a1 b2; -1 c3 d4; -1 c3 d5; 0; 1; 2", "bd", true},
	} {
		if got, differ, e := least.Apart(read(x.a), read(x.b)); got != x.want || differ != x.differ || e != api.OK {
			t.Errorf("%s: got %q, %v, %d", x.name, got, differ, e)
		}
		if got, differ, e := least.Apart(read(x.b), read(x.a)); got != x.want || differ != x.differ || e != api.OK {
			t.Errorf("%s, the other way round: got %q, %v, %d", x.name, got, differ, e)
		}
	}
}

// P5.3: ErrAuto if one of both may not be, and nothing beside it.
func TestApartRefuses(t *testing.T) {
	good := read("0 a1; 1")
	for name, d := range wrong() {
		for _, l := range [][2]api.DFA{{d, good}, {good, d}, {d, d}} {
			if s, differ, e := least.Apart(l[0], l[1]); s != "" || differ || e != api.ErrAuto {
				t.Errorf("%s: got %q, %v, %d", name, s, differ, e)
			}
		}
	}
}

// differ is what Apart says, found by going through all pairs of states, none among them.
func differ(a, b api.DFA) (string, bool) {
	type pair struct{ a, b int }
	accept := func(d api.DFA, s int) int {
		if s < 0 {
			return -1
		}
		return d.Accept[s]
	}
	met := map[pair]bool{{0, 0}: true}
	l, by := []pair{{0, 0}}, []string{""}
	for i := 0; i < len(l); i++ {
		if accept(a, l[i].a) != accept(b, l[i].b) {
			return by[i], true
		}
		for _, c := range bytes(a, b) {
			p := pair{dfa.Next(a, l[i].a, c), dfa.Next(b, l[i].b, c)}
			if !met[p] {
				met[p] = true
				l, by = append(l, p), append(by, by[i]+string([]byte{c}))
			}
		}
	}
	return "", false
}

// P5.3, P5.4: many automata, against all pairs; and those that are told apart have other least ones.
func TestApartOfMany(t *testing.T) {
	r := rand.New(rand.NewSource(31))
	same, longest := 0, 0
	for i := range 6000 {
		a := some(r, 7)
		b := copied(r, a)
		if i%3 > 0 {
			b.Accept[r.Intn(len(b.Accept))] = r.Intn(2) - 1
		}
		if i%3 > 1 {
			b = some(r, 4)
		}
		want, is := differ(a, b)
		got, told1, e := least.Apart(a, b)
		if got != want || told1 != is || e != api.OK {
			t.Fatalf("%s and %s: got %q, %v, %d, want %q, %v", told(a), told(b), got, told1, e, want, is)
		}
		if is == (dfa.Run(a, got) == dfa.Run(b, got)) {
			t.Fatalf("%s and %s: %q", told(a), told(b), got)
		}
		x, _ := least.Build(a)
		y, _ := least.Build(b)
		if is == (told(x) == told(y)) {
			t.Fatalf("%s and %s: %v, and %s and %s", told(a), told(b), is, told(x), told(y))
		}
		if !is {
			same++
		}
		longest = max(longest, len(got))
	}
	if same < 2000 || same > 4000 || longest < 4 {
		t.Errorf("%d are the same, %d is the longest text: the automata tell too little", same, longest)
	}
}

// before tells whether a is shorter than b, or as long and ahead of it.
func before(a, b string) bool {
	return len(a) < len(b) || len(a) == len(b) && a < b
}

// P5.3: no text ahead of the one that is told, shorter or as long, comes to something else.
func TestApartIsFirst(t *testing.T) {
	r := rand.New(rand.NewSource(32))
	all := texts()
	slices.SortFunc(all, func(a, b string) int {
		if before(a, b) {
			return -1
		}
		return 1
	})
	told := 0
	for range 1500 {
		a := some(r, 6)
		b := copied(r, a)
		b.Accept[r.Intn(len(b.Accept))]++
		got, differ, e := least.Apart(a, b)
		if e != api.OK {
			t.Fatalf("got %d", e)
		}
		if differ && dfa.Run(a, got) != dfa.Run(b, got) {
			told++
		}
		for _, s := range all {
			if dfa.Run(a, s) != dfa.Run(b, s) && (!differ || before(s, got)) {
				t.Fatalf("got %q, %v, but %q tells them apart", got, differ, s)
			}
		}
	}
	if told < 500 {
		t.Errorf("%d are told apart: the automata tell too little", told)
	}
}

// P5.3: automata of many states, by long texts.
func TestApartOfLarge(t *testing.T) {
	n := api.MaxStates
	a, b := ring(n), ring(n-1)
	if s, differ, e := least.Apart(a, b); s != strings.Repeat("a", n-1) || !differ || e != api.OK {
		t.Errorf("rings: got %d bytes, %v, %d", len(s), differ, e)
	}
	b = ring(n)
	b.Accept[1] = 5 // the last one
	if s, differ, e := least.Apart(a, b); s != strings.Repeat("a", n-1) || !differ || e != api.OK {
		t.Errorf("another last one: got %d bytes, %v, %d", len(s), differ, e)
	}
	a, b = ring(n), ring(1)
	clear(a.Accept)
	if s, differ, e := least.Apart(a, b); s != "" || differ || e != api.OK {
		t.Errorf("rings of one kind: got %d bytes, %v, %d", len(s), differ, e)
	}
	for i := range n {
		a.Accept[i] = -min(i%2, 1)
	}
	if s, differ, e := least.Apart(a, ring(2)); s != "" || differ || e != api.OK {
		t.Errorf("a ring of 2: got %d bytes, %v, %d", len(s), differ, e)
	}
	a, b = ring(n-1), ring(n) // in each one state alone accepts 1; both are there behind n - 2 bytes, and the first behind n - 1 more
	clear(a.Accept)
	clear(b.Accept)
	a.Accept[1], b.Accept[2] = 1, 1
	if s, differ, e := least.Apart(a, b); len(s) != 2*n-3 || !differ || e != api.OK {
		t.Errorf("as long as can be: got %d bytes, %v, %d", len(s), differ, e)
	}
}

// R2, R5: what was handed in stays what it is, and the answer is the same again.
func TestApartChangesNothing(t *testing.T) {
	a, b := read("0 a1 b0; 0 a2 c1; 1 a-d0"), read("0 a1 b0; 0 a2 c1; 1 a-c0")
	for range 3 {
		if s, differ, e := least.Apart(a, b); s != "aad" || !differ || e != api.OK {
			t.Errorf("got %q, %v, %d", s, differ, e)
		}
	}
	if told(a) != "0 a1 b0; 0 a2 c1; 1 a-d0" || told(b) != "0 a1 b0; 0 a2 c1; 1 a-c0" {
		t.Errorf("they are %s and %s now", told(a), told(b))
	}
}
