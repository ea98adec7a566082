package least_test

import (
	"math/rand"
	"slices"
	"strconv"
	"strings"
	"testing"

	"quincunx/api"
	"quincunx/dfa"
	"quincunx/least"
	"quincunx/nfa"
	"quincunx/regex"
)

const lowest, most = -1 << 63, 1<<63 - 1

func move(lo, hi byte, to int) api.Move { return api.Move{Lo: lo, Hi: hi, To: to} }

// read makes an automaton of words: of each state what it accepts, and its moves: the bytes (\ is 0, ~ is 255), and where they lead.
func read(text string) api.DFA {
	var d api.DFA
	of := func(c byte) byte {
		switch c {
		case '\\':
			return 0
		case '~':
			return 255
		}
		return c
	}
	for _, s := range strings.Split(text, ";") {
		words := strings.Fields(s)
		i, _ := strconv.Atoi(words[0])
		d.Accept = append(d.Accept, i)
		var l []api.Move
		for _, w := range words[1:] {
			m := move(of(w[0]), of(w[0]), 0)
			w = w[1:]
			if w[0] == '-' {
				m.Hi = of(w[1])
				w = w[2:]
			}
			m.To, _ = strconv.Atoi(w)
			l = append(l, m)
		}
		d.Moves = append(d.Moves, l)
	}
	return d
}

// told is an automaton in the words of which read makes it.
func told(d api.DFA) string {
	var out []string
	name := func(c byte) string {
		switch c {
		case 0:
			return `\`
		case 255:
			return "~"
		}
		return string([]byte{c})
	}
	for i, l := range d.Moves {
		s := strconv.Itoa(d.Accept[i])
		for _, m := range l {
			s += " " + name(m.Lo)
			if m.Hi != m.Lo {
				s += "-" + name(m.Hi)
			}
			s += strconv.Itoa(m.To)
		}
		out = append(out, s)
	}
	return strings.Join(out, "; ")
}

func TestTold(t *testing.T) {
	text := `-1 \0 a1 c-f10; 7 a-~0; 12; 0 \-~3`
	d := read(text)
	want := []api.Move{move(0, 0, 0), move('a', 'a', 1), move('c', 'f', 10)}
	if told(d) != text || !slices.Equal(d.Moves[0], want) || !slices.Equal(d.Accept, []int{-1, 7, 12, 0}) || d.Moves[1][0] != move('a', 255, 0) {
		t.Errorf("got %s", told(d))
	}
}

// made is the automaton with one way of expressions, made by way of many.
func made(t *testing.T, l ...string) api.DFA {
	t.Helper()
	rs := make([]api.Re, len(l))
	for i, s := range l {
		r, at, e := regex.Parse(s)
		if e != api.OK {
			t.Fatalf("%q: %d at %d", s, e, at)
		}
		rs[i] = r
	}
	n, e := nfa.Build(rs)
	if e != api.OK {
		t.Fatalf("%q: %d", l, e)
	}
	d, e := dfa.Build(n)
	if e != api.OK {
		t.Fatalf("%q: %d", l, e)
	}
	return d
}

// wrong are automata that may not be.
func wrong() map[string]api.DFA {
	return map[string]api.DFA{
		"nothing":                   {},
		"lists that are empty":      {Moves: [][]api.Move{}, Accept: []int{}},
		"one state too many":        {Moves: make([][]api.Move, api.MaxStates+1), Accept: make([]int, api.MaxStates+1)},
		"no Accept":                 {Moves: make([][]api.Move, 1)},
		"no Moves":                  {Accept: []int{0}},
		"an Accept too few":         {Moves: make([][]api.Move, 3), Accept: make([]int, 2)},
		"an Accept too many":        {Moves: make([][]api.Move, 2), Accept: make([]int, 3)},
		"Accept below -1":           read("-2"),
		"the least Accept":          {Moves: make([][]api.Move, 2), Accept: []int{0, lowest}},
		"Lo above Hi":               read("0 b-a0"),
		"To below 0":                read("0 a-1"),
		"To is no state":            read("0 a1; 1 a2"),
		"the greatest To":           {Moves: [][]api.Move{{move('a', 'a', most)}}, Accept: []int{0}},
		"moves that overlap":        read("0 a-f0 f-z1; 1"),
		"another order":             read("0 b0 a1; 1"),
		"moves that could be one":   read("0 a-b1 c1; 1"),
		"wrong, but not led to":     read("0 a0; 0 b-a0"),
		"wrong, and dead":           read("-1 a1; -1 a-c0 d0"),
		"wrong only in what Run is": {Moves: [][]api.Move{{move('a', 'a', 1)}, nil}, Accept: []int{0}},
	}
}

// ring is an automaton of so many states, each of which leads by an a to the one ahead, the first one to the last; the first one accepts 0.
func ring(states int) api.DFA {
	d := api.DFA{Moves: make([][]api.Move, states), Accept: make([]int, states)}
	for i := range states {
		d.Accept[i] = -1
		d.Moves[i] = []api.Move{move('a', 'a', (i+states-1)%states)}
	}
	d.Accept[0] = 0
	return d
}

// P5.1: which states are dead, and which class each is of.
func TestDeadAndClasses(t *testing.T) {
	for _, x := range []struct {
		d, dead string // d: the state is dead
		classes []int
	}{
		{"-1", "d", []int{0}},
		{"0", ".", []int{0}},
		{"-1 a0", "d", []int{0}},
		{"0 \\-~0", ".", []int{0}},
		{"-1 a1; 0", "..", []int{0, 1}},
		{"0 a1; -1", ".d", []int{0, 1}},
		{"0 a1; 0", "..", []int{0, 1}},
		{"0 a1; 0 a0", "..", []int{0, 0}},
		{"0 a1; 0 b0", "..", []int{0, 1}},
		{"0 a1; 1 a0", "..", []int{0, 1}},
		{"-1 a1; -1 b0", "dd", []int{0, 0}}, // what is dead is alike, wherever its moves lead
		{"-1; -1 a1", "dd", []int{0, 0}},
		{"0 a1; 0 b1; -1 a1", "...", []int{0, 1, 2}},
		{"0 a2; 0 a3; 0; 0", "....", []int{0, 0, 1, 1}},
		{"0; 0; 0 a1; 0 a0", "....", []int{0, 0, 1, 1}},
		{"0 a1; -1; 0 b1; 0", ".d..", []int{0, 1, 0, 0}}, // a way that comes to nothing is none
		{"-1 a1; -1 a2; -1 a3; 0", "....", []int{0, 1, 2, 3}},
		{"0; -1 a0; -1 a1; -1 a2", "....", []int{0, 1, 2, 3}},
		{"1; 0; 2; 0; 1; -1; 2", ".....d.", []int{0, 1, 2, 1, 0, 3, 2}},
		{"5 b1; -1; 5 b3; -1 a3", ".d.d", []int{0, 1, 0, 1}},
		{"-1 a1 b2; 0; 0", "...", []int{0, 1, 1}}, // the chapter's example: a|b
		{"-1 a1 b2; 0; 1", "...", []int{0, 1, 2}},
		{"-1 a1; -1 a2; 0; -1 a4; 0", ".....", []int{0, 1, 2, 1, 2}}, // no byte leads to 3
		{"-1 a-c1 d2; 0; 0; -1 a-d4; 0; -1 a-b1 c2 d4", "......", []int{0, 1, 1, 0, 1, 0}},
		{"-1 \\-`1 b-~1; 0; -1 \\-~1", "...", []int{0, 1, 2}},
		{"-1 \\1; 0; -1 ~1; -1 \\1 ~1", "....", []int{0, 1, 2, 3}},
		{"0 a1; 0 a2; 0 a3; 0 a0", "....", []int{0, 0, 0, 0}},
		{"0 a1; 1 a2; 0 a3; 1 a0", "....", []int{0, 1, 0, 1}},
		{"0 a1; 1 a2; 0 a3; 1 a0 b2", "....", []int{0, 1, 2, 3}},
		{"9223372036854775807; 9223372036854775806; 9223372036854775807", "...", []int{0, 1, 0}},
	} {
		dead := ""
		for _, is := range least.Dead(read(x.d)) {
			dead += map[bool]string{true: "d", false: "."}[is]
		}
		if dead != x.dead {
			t.Errorf("%s: got %s, want %s", x.d, dead, x.dead)
		}
		if got := least.Classes(read(x.d)); !slices.Equal(got, x.classes) {
			t.Errorf("%s: got %v, want %v", x.d, got, x.classes)
		}
	}
}

// P5.1: as many states as may be, and the ones that it takes longest to tell apart.
func TestClassesOfLarge(t *testing.T) {
	d := ring(api.MaxStates)
	for i, c := range least.Classes(d) {
		if c != i {
			t.Fatalf("a ring: %d is of %d", i, c)
		}
	}
	d.Accept[api.MaxStates/2] = 0 // now it is the same ring twice
	for i, c := range least.Classes(d) {
		if c != i%(api.MaxStates/2) {
			t.Fatalf("two rings: %d is of %d", i, c)
		}
	}
	clear(d.Accept)
	if l := least.Classes(d); slices.Max(l) != 0 {
		t.Errorf("a ring that takes all: got %v", l)
	}
	for i := range d.Accept {
		d.Accept[i] = -1
	}
	if l := least.Dead(d); len(l) != api.MaxStates || slices.Contains(l, false) {
		t.Errorf("a ring that takes nothing: got %v", l)
	}
}

// P5.1: more classes than there are bytes, of states that are alike but for the classes to which they lead.
func TestClassesOfMany(t *testing.T) {
	const half = api.MaxStates / 2
	d := api.DFA{Moves: make([][]api.Move, 2*half), Accept: make([]int, 2*half)}
	for i := range half {
		d.Accept[i], d.Accept[half+i] = -1, i
		d.Moves[i] = []api.Move{move('a', 'a', half+i)}
	}
	for i, c := range least.Classes(d) {
		if c != i {
			t.Fatalf("%d is of %d", i, c)
		}
	}
}

// P5.1: of automata that may not be the calls end.
func TestOthersEnd(t *testing.T) {
	for _, d := range wrong() {
		least.Dead(d)
		least.Classes(d)
	}
}

// P5.2: the least automata of expressions.
func TestBuildOfExpressions(t *testing.T) {
	for _, x := range []struct {
		l    []string
		want string
	}{
		{nil, "-1"},
		{[]string{"()"}, "0"},
		{[]string{"a|b"}, "-1 a-b1; 0"}, // the chapter's example
		{[]string{"a|c"}, "-1 a1 c1; 0"},
		{[]string{"a*"}, "0 a0"},
		{[]string{"a+"}, "-1 a1; 0 a1"},
		{[]string{"(a|b)*b"}, "-1 a0 b1; 0 a0 b1"},
		{[]string{"ac|bc"}, "-1 a-b1; -1 c2; 0"},
		{[]string{"ba|ab"}, "-1 a1 b2; -1 b3; -1 a3; 0"},
		{[]string{"[^b]|b"}, "-1 \\-~1; 0"},
		{[]string{"[^b]|bb"}, "-1 \\-a1 b2 c-~1; 0; -1 b1"},
		{[]string{"a", "b"}, "-1 a1 b2; 0; 1"},
		{[]string{"b", "a"}, "-1 a1 b2; 1; 0"},
		{[]string{"a", "a*"}, "1 a1; 0 a2; 1 a2"}, // the two that accept 1 are told apart by an a
		{[]string{"if", "[a-z]+"}, "-1 a-h1 i2 j-z1; 1 a-z1; 1 a-e1 f3 g-z1; 0 a-z1"},
		{[]string{"[a-z]+", "if"}, "-1 a-z1; 0 a-z1"},
		{[]string{"(a|b)(a|b)", "bb|bc"}, "-1 a1 b2; -1 a-b3; -1 a-b3 c4; 0; 1"},
	} {
		d := made(t, x.l...)
		got, e := least.Build(d)
		if told(got) != x.want || e != api.OK {
			t.Errorf("%q: got %s, %d, want %s", x.l, told(got), e, x.want)
		}
	}
}

// P5.2: of automata that no expression makes.
func TestBuildOfOthers(t *testing.T) {
	for _, x := range []struct{ name, d, want string }{
		{"one state", "-1", "-1"},
		{"one that accepts", "7", "7"},
		{"a dead one with moves", "-1 a0", "-1"},
		{"dead ones", "-1 a1 c0; -1 b2; -1 c0", "-1"},
		{"0 is dead, another one is not", "-1 a2; 0; -1", "-1"},
		{"a move to what is dead", "0 a1; -1", "0"},
		{"moves to what is dead, between others", "0 a-b1 c-d2 e-f1 g0 h2 i3; 1; -1 a2; 1", "0 a-b1 e-f1 g0 i1; 1"},
		{"moves beside one to what is dead", "0 a1 b2 c1; 1; -1", "0 a1 c1; 1"},
		{"0 accepts nothing, but is not dead", "-1 b1 c2; 4; -1 c0", "-1 b1 c2; 4; -1 c0"},
		{"a state to which nothing leads", "0 a2; 1; 2", "0 a1; 2"},
		{"states to which nothing leads, alike with others", "0 a2; 0 a2; 2; 2 b1", "0 a1; 2"},
		{"another order", "0 a2 b1; 1 a2; 2 b1", "0 a1 b2; 2 b2; 1 a1"},
		{"found by the second one first", "0 a3 b1; 1; 2; 3 a2", "0 a1 b2; 3 a3; 1; 2"},
		{"moves that become one", "0 a-b1 c2 d3 f2; 5; 5; 5", "0 a-d1 f1; 5"},
		{"moves that become one, at 0 and 255", "0 \\1 a-~2; 5; 5", "0 \\1 a-~1; 5"},
		{"moves that become all", "0 \\-`1 a2 b-~3; 5; 5; 5", "0 \\-~1; 5"},
		{"moves that become one with 0's", "0 a1 b0; 0 a-b0", "0 a-b0"},
		{"moves that do not become one", "0 a1 b2 c3; 5; 6; 5", "0 a1 b2 c1; 5; 6"},
		{"a move behind 255", "0 \\1 ~2; 1; 1", "0 \\1 ~1; 1"},
		{"a ring of alike ones", "3 x1; 3 x2; 3 x0", "3 x0"},
		{"a ring of two kinds", "3 x1; -1 x2; 3 x3; -1 x0", "3 x1; -1 x0"},
		{"great numbers", "9223372036854775807 a1 b2; 0; 9223372036854775807", "9223372036854775807 a1 b2; 0; 9223372036854775807"},
	} {
		if got, e := least.Build(read(x.d)); told(got) != x.want || e != api.OK {
			t.Errorf("%s: got %s, %d, want %s", x.name, told(got), e, x.want)
		}
	}
}

// P5.2: dfa.Check's error, and nothing beside it.
func TestBuildRefuses(t *testing.T) {
	for name, d := range wrong() {
		if got, e := least.Build(d); e != api.ErrAuto || len(got.Moves) != 0 || len(got.Accept) != 0 {
			t.Errorf("%s: got %s, %d", name, told(got), e)
		}
	}
}

// P5.2: as many states as may be; from 0 on a ring is found the other way round.
func TestBuildOfLarge(t *testing.T) {
	d := ring(api.MaxStates)
	got, e := least.Build(d)
	if e != api.OK || len(got.Moves) != api.MaxStates || dfa.Check(got) != api.OK {
		t.Fatalf("got %d states, %d", len(got.Moves), e)
	}
	for i, l := range got.Moves {
		if len(l) != 1 || l[0] != move('a', 'a', (i+1)%api.MaxStates) || (got.Accept[i] == 0) != (i == 0) {
			t.Fatalf("got %v of %d, which accepts %d", l, i, got.Accept[i])
		}
	}
	d.Accept[api.MaxStates/4], d.Accept[api.MaxStates/2], d.Accept[3*api.MaxStates/4] = 0, 0, 0
	if got, e := least.Build(d); e != api.OK || len(got.Moves) != api.MaxStates/4 {
		t.Errorf("four rings: got %d states, %d", len(got.Moves), e)
	}
}

// bytes are those that some automata tell apart, and 0 and 255.
func bytes(ds ...api.DFA) []byte {
	var is [257]bool
	is[0], is[255] = true, true
	for _, d := range ds {
		for _, m := range slices.Concat(d.Moves...) {
			is[m.Lo], is[int(m.Hi)+1] = true, true
		}
	}
	var l []byte
	for c := range 256 {
		if is[c] {
			l = append(l, byte(c))
		}
	}
	return l
}

// tells tells of each two states of an automaton (the last one is none) whether some text comes to something else from them: at first the empty one, and then each by one byte more.
func tells(d api.DFA) [][]bool {
	n := len(d.Moves)
	at := func(s int) int { return (s + n + 1) % (n + 1) }
	out := make([][]bool, n+1)
	accept := append(slices.Clone(d.Accept), -1)
	for a := range out {
		out[a] = make([]bool, n+1)
		for b := range out {
			out[a][b] = accept[a] != accept[b]
		}
	}
	for more := true; more; {
		more = false
		for a := range out {
			for b := range out {
				for _, c := range bytes(d) {
					if !out[a][b] && out[at(dfa.Next(d, a, c))][at(dfa.Next(d, b, c))] {
						out[a][b], more = true, true
					}
				}
			}
		}
	}
	return out
}

// byWords is what Dead, Classes and Build say, made as the chapter has it: pair by pair and byte by byte.
func byWords(d api.DFA) (dead []bool, classes []int, small api.DFA) {
	apart := tells(d)
	n := len(d.Moves)
	var firsts []int
	for s := range n {
		dead = append(dead, !apart[s][n])
		i := slices.IndexFunc(firsts, func(f int) bool { return !apart[f][s] })
		if i < 0 {
			i = len(firsts)
			firsts = append(firsts, s)
		}
		classes = append(classes, i)
	}
	found := []int{0}
	for i := 0; i < len(found); i++ {
		s := found[i]
		var l []api.Move
		for c := range 256 {
			to := dfa.Next(d, s, byte(c))
			if to < 0 || dead[to] {
				continue
			}
			j := slices.IndexFunc(found, func(f int) bool { return !apart[f][to] })
			if j < 0 {
				j = len(found)
				found = append(found, to)
			}
			if k := len(l) - 1; k >= 0 && l[k].To == j && int(l[k].Hi)+1 == c {
				l[k].Hi++
			} else {
				l = append(l, move(byte(c), byte(c), j))
			}
		}
		small.Moves = append(small.Moves, l)
		small.Accept = append(small.Accept, d.Accept[s])
	}
	return dead, classes, small
}

// some is any automaton that may be, of at most so many states.
func some(r *rand.Rand, states int) api.DFA {
	n := 1 + r.Intn(states)
	var d api.DFA
	cuts := []int{0, 1, 'a', 'b', 'c', 'd', 'e', 255}
	for range n {
		var l []api.Move
		for i, lo := range cuts {
			hi := 255
			if i+1 < len(cuts) {
				hi = cuts[i+1] - 1
			}
			if to := r.Intn(n + n/2 + 1); to < n {
				l = put(l, move(byte(lo), byte(hi), to))
			}
		}
		d.Moves = append(d.Moves, l)
		d.Accept = append(d.Accept, max(-1, r.Intn(6)-4))
	}
	return d
}

// put lays a move behind those of a state, or makes it one with the last.
func put(l []api.Move, m api.Move) []api.Move {
	if k := len(l) - 1; k >= 0 && l[k].To == m.To && l[k].Hi == m.Lo-1 {
		l[k].Hi = m.Hi
		return l
	}
	return append(l, m)
}

// copied is an automaton that comes to the same: with each state some times, and some that are dead, or are not led to, in another order.
func copied(r *rand.Rand, d api.DFA) api.DFA {
	var of []int // of each new state which one it is; -1: one that is dead
	for s := range d.Moves {
		for range 1 + r.Intn(3) {
			of = append(of, s)
		}
	}
	for range r.Intn(3) {
		of = append(of, -1)
	}
	r.Shuffle(len(of), func(i, j int) { of[i], of[j] = of[j], of[i] })
	first := slices.Index(of, 0)
	of[0], of[first] = of[first], of[0]
	cuts := bytes(d)
	var out api.DFA
	for _, s := range of {
		var l []api.Move
		to := -1
		for c := range 256 {
			if slices.Contains(cuts, byte(c)) || r.Intn(60) == 0 {
				to = pick(r, of, dfa.Next(d, s, byte(c)))
			}
			if to >= 0 {
				l = put(l, move(byte(c), byte(c), to))
			}
		}
		out.Moves = append(out.Moves, l)
		out.Accept = append(out.Accept, -1)
		if s >= 0 {
			out.Accept[len(out.Accept)-1] = d.Accept[s]
		}
	}
	return out
}

// pick is any of the states that are s; for none it may be none too.
func pick(r *rand.Rand, of []int, s int) int {
	if s < 0 && (r.Intn(2) == 0 || !slices.Contains(of, s)) {
		return -1
	}
	for {
		if i := r.Intn(len(of)); of[i] == s {
			return i
		}
	}
}

// P5.1, P5.2, P5.4: many automata, against what the chapter says word by word.
func TestMany(t *testing.T) {
	r := rand.New(rand.NewSource(21))
	smaller, deads := 0, 0
	for i := range 3000 {
		d := some(r, 5)
		if i%2 == 0 {
			d = copied(r, d)
		}
		dead, classes, small := byWords(d)
		if got := least.Dead(d); !slices.Equal(got, dead) {
			t.Fatalf("%s: got %v, want %v", told(d), got, dead)
		}
		if got := least.Classes(d); !slices.Equal(got, classes) {
			t.Fatalf("%s: got %v, want %v", told(d), got, classes)
		}
		got, e := least.Build(d)
		if e != api.OK || told(got) != told(small) || dfa.Check(got) != api.OK {
			t.Fatalf("%s: got %s, %d, want %s", told(d), told(got), e, told(small))
		}
		if len(got.Moves) > 1 && len(got.Moves) < len(d.Moves) {
			smaller++
		}
		if slices.Contains(dead, true) {
			deads++
		}
	}
	if smaller < 800 || deads < 500 {
		t.Errorf("%d are smaller, %d have dead states: the automata tell too little", smaller, deads)
	}
}

// P5.4: Build comes to the same; its states are not alike, and not dead but a lone one.
func TestBuildComesToTheSame(t *testing.T) {
	r := rand.New(rand.NewSource(22))
	all := texts()
	for range 500 {
		d := some(r, 9)
		got, _ := least.Build(d)
		for _, s := range all {
			if dfa.Run(got, s) != dfa.Run(d, s) {
				t.Fatalf("%s, %q: got %s", told(d), s, told(got))
			}
		}
		n := len(got.Moves)
		if l := least.Classes(got); slices.Max(l) != n-1 {
			t.Fatalf("%s: got %s, with the classes %v", told(d), told(got), l)
		}
		if l := least.Dead(got); n > 1 && slices.Contains(l, true) || l[0] && told(got) != "-1" {
			t.Fatalf("%s: got %s", told(d), told(got))
		}
		if again, e := least.Build(got); e != api.OK || told(again) != told(got) {
			t.Fatalf("%s: got %s, and of that %s", told(d), told(got), told(again))
		}
	}
}

// texts are all texts of a, b and c up to 5 bytes, and some others.
func texts() []string {
	l := []string{""}
	for i := 0; len(l[i]) < 5; i++ {
		l = append(l, l[i]+"a", l[i]+"b", l[i]+"c")
	}
	return append(l, "\x00", "\x01", "\xff", "a\xff", "d", "ad", "bd\x00", "zz", "abcdabcd", "ed", "e\xfe", "a\nb")
}

// P5.4: of two automata that come to the same Build is the same.
func TestBuildIsOne(t *testing.T) {
	r := rand.New(rand.NewSource(23))
	for range 1000 {
		d := some(r, 5)
		a, _ := least.Build(d)
		b, _ := least.Build(copied(r, d))
		if told(a) != told(b) {
			t.Fatalf("%s: got %s and %s", told(d), told(a), told(b))
		}
	}
	for _, l := range [][]string{
		{"a|b", "b|a", "[ab]", "a|b|a|[a-b]", "(a|b)"},
		{"a*", "(a*)*", "(a+)?", "a*a*", "()|aa*", "(aa)*a?", "(a?)*", "(aaa)*(a|aa)?"},
		{"(a|b)*", "(a*b*)*", "(a*b)*a*", "((a|b)*)*", "[ab]*"},
		{"(ab)*a", "a(ba)*", "(ab)*(ab)*a"},
		{"abc|abd|xbc|xbd", "[ax]b[cd]", "(a|x)(bc|bd)"},
		{"(...)*", "((...)*)*", "(......)*(...)?"},
		{"(a|b)*abb", "b*a(a|b(a|bb*a))*bb", "((b|a)*)(abb)"},
	} {
		want, _ := least.Build(made(t, l[0]))
		for _, s := range l {
			if got, _ := least.Build(made(t, s)); told(got) != told(want) {
				t.Errorf("%q: got %s, of %q %s", s, told(got), l[0], told(want))
			}
		}
	}
}

// P5.2, P5.4: of automata of many states.
func TestBuildOfCopies(t *testing.T) {
	r := rand.New(rand.NewSource(24))
	for range 10 {
		d := some(r, 400)
		small, e := least.Build(d)
		again, f := least.Build(copied(r, d))
		if e != api.OK || f != api.OK || told(small) != told(again) || dfa.Check(small) != api.OK {
			t.Fatalf("%d states: got %d and %d states, %d, %d", len(d.Moves), len(small.Moves), len(again.Moves), e, f)
		}
	}
}

// R2: what was handed in stays what it is; what was answered does not hang on it, and no two of its lists on each other.
func TestNotShared(t *testing.T) {
	const text = `-1 a1 b2 c-d4; 3 a1; 3 a2 x0; 5; 6 \-~3; 3 a1 x6; -1`
	d := read(text)
	dead, classes := least.Dead(d), least.Classes(d)
	small, _ := least.Build(d)
	again, _ := least.Build(d)
	least.Apart(d, small)
	if told(d) != text {
		t.Fatalf("it is %s now", told(d))
	}
	want := told(small)
	clear(d.Accept)
	for _, l := range d.Moves {
		clear(l)
	}
	clear(d.Moves)
	if told(small) != want || !slices.Equal(dead, []bool{6: true}) || !slices.Equal(classes, []int{0, 1, 2, 3, 4, 1, 5}) {
		t.Errorf("behind a change of the argument: %s, %v, %v", told(small), dead, classes)
	}
	for i, l := range small.Moves {
		_ = append(l, move(0, 0, 0))
		clear(l)
		for _, m := range slices.Concat(small.Moves[i+1:]...) {
			if m.Hi == 0 {
				t.Fatalf("behind a change of the moves of %d: %s", i, told(small))
			}
		}
	}
	clear(small.Accept)
	if told(again) != want {
		t.Errorf("behind a change of another answer: %s", told(again))
	}
}

// R5: the same answers, again and again.
func TestAgain(t *testing.T) {
	r := rand.New(rand.NewSource(25))
	for range 20 {
		d := copied(r, some(r, 20))
		classes, dead := least.Classes(d), least.Dead(d)
		small, _ := least.Build(d)
		for range 5 {
			again, _ := least.Build(d)
			if told(again) != told(small) || !slices.Equal(least.Classes(d), classes) || !slices.Equal(least.Dead(d), dead) {
				t.Fatalf("%s: got %s, and then %s", told(d), told(small), told(again))
			}
		}
	}
}
