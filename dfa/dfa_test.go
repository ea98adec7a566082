package dfa_test

import (
	"slices"
	"strconv"
	"strings"
	"testing"

	"quincunx/api"
	"quincunx/dfa"
)

const least, most = -1 << 63, 1<<63 - 1

func move(lo, hi byte, to int) api.Move { return api.Move{Lo: lo, Hi: hi, To: to} }

// auto is an automaton of so many states, all of which accept 0, with the moves of the first ones.
func auto(states int, moves ...[]api.Move) api.DFA {
	d := api.DFA{Moves: make([][]api.Move, states), Accept: make([]int, states)}
	copy(d.Moves, moves)
	return d
}

// accepting is an automaton with other numbers for the first states.
func accepting(d api.DFA, l ...int) api.DFA {
	copy(d.Accept, l)
	return d
}

// wrong are automata that may not be.
func wrong() map[string]api.DFA {
	last := auto(api.MaxStates)
	last.Moves[api.MaxStates-1] = []api.Move{move('a', 'a', api.MaxStates)}
	return map[string]api.DFA{
		"nothing":                            {},
		"lists that are empty":               {Moves: [][]api.Move{}, Accept: []int{}},
		"one state too many":                 auto(api.MaxStates + 1),
		"no Accept":                          {Moves: make([][]api.Move, 1)},
		"no Moves":                           {Accept: []int{0}},
		"an Accept too few":                  {Moves: make([][]api.Move, 3), Accept: make([]int, 2)},
		"an Accept too many":                 {Moves: make([][]api.Move, 2), Accept: make([]int, 3)},
		"too many Accepts":                   {Moves: make([][]api.Move, 2), Accept: make([]int, api.MaxStates+1)},
		"Accept below -1":                    accepting(auto(1), -2),
		"the least Accept":                   accepting(auto(1), least),
		"Accept of the last":                 accepting(auto(3), 0, -1, -2),
		"Lo above Hi":                        auto(1, []api.Move{move('b', 'a', 0)}),
		"Lo far above Hi":                    auto(1, []api.Move{move(255, 0, 0)}),
		"Lo above Hi, the second":            auto(2, []api.Move{move('a', 'a', 0), move('d', 'c', 1)}),
		"To below 0":                         auto(1, []api.Move{move('a', 'a', -1)}),
		"the least To":                       auto(1, []api.Move{move('a', 'a', least)}),
		"To behind the last":                 auto(2, []api.Move{move('a', 'a', 2)}),
		"the greatest To":                    auto(2, []api.Move{move('a', 'a', most)}),
		"To, the second":                     auto(2, []api.Move{move('a', 'a', 1), move('b', 'b', 2)}),
		"To, of the last state":              last,
		"one move twice":                     auto(2, []api.Move{move('a', 'a', 1), move('a', 'a', 1)}),
		"one byte, two ways":                 auto(2, []api.Move{move('a', 'a', 0), move('a', 'a', 1)}),
		"moves that overlap":                 auto(2, []api.Move{move('a', 'f', 0), move('f', 'z', 1)}),
		"a move in another":                  auto(2, []api.Move{move('a', 'z', 0), move('c', 'd', 1)}),
		"another order":                      auto(2, []api.Move{move('c', 'd', 0), move('a', 'b', 1)}),
		"another order, the same To":         auto(2, []api.Move{move('k', 'l', 1), move('a', 'b', 1)}),
		"another order, just ahead":          auto(2, []api.Move{move('c', 'd', 1), move('b', 'b', 0)}),
		"a move behind 255":                  auto(2, []api.Move{move(0xf0, 255, 0), move(0, 1, 1)}),
		"a move behind 255, twice":           auto(2, []api.Move{move(255, 255, 0), move(255, 255, 1)}),
		"just behind, the same To":           auto(2, []api.Move{move('a', 'b', 1), move('c', 'd', 1)}),
		"just behind, the same To, at 255":   auto(1, []api.Move{move(0, 254, 0), move(255, 255, 0)}),
		"just behind, the same To, at 0":     auto(1, []api.Move{move(0, 0, 0), move(1, 255, 0)}),
		"just behind, the same To, the last": auto(2, []api.Move{move('a', 'b', 0), move('c', 'd', 1), move('e', 'e', 1)}),
		"just behind, of the second state":   auto(2, nil, []api.Move{move('a', 'b', 1), move('c', 'd', 1)}),
	}
}

// P4.1: which automata may be.
func TestCheck(t *testing.T) {
	ring := auto(api.MaxStates)
	for i := range api.MaxStates {
		ring.Moves[i] = []api.Move{move('a', 'a', (i+1)%api.MaxStates)}
	}
	var single []api.Move
	for c := range 256 {
		single = append(single, move(byte(c), byte(c), c%2))
	}
	for name, d := range map[string]api.DFA{
		"one state":                      auto(1),
		"Accept is -1":                   accepting(auto(1), -1),
		"the greatest Accept":            accepting(auto(2), most, -1),
		"lists that are not nil":         {Moves: [][]api.Move{{}}, Accept: []int{0}},
		"as many states as may be":       auto(api.MaxStates),
		"as many, in a ring":             ring,
		"to itself":                      auto(1, []api.Move{move('a', 'a', 0)}),
		"all bytes":                      auto(1, []api.Move{move(0, 255, 0)}),
		"the first and last byte":        auto(1, []api.Move{move(0, 0, 0), move(255, 255, 0)}),
		"one byte between, the same To":  auto(2, []api.Move{move('a', 'b', 1), move('d', 'e', 1)}),
		"just behind, another To":        auto(2, []api.Move{move('a', 'b', 1), move('c', 'd', 0), move('e', 'e', 1)}),
		"just behind at 255, another To": auto(2, []api.Move{move(0, 254, 1), move(255, 255, 0)}),
		"each byte, in turn":             auto(2, single, single),
		"a state to which nothing leads": auto(3, []api.Move{move('a', 'a', 1)}, nil, []api.Move{move('a', 'a', 0)}),
		"states that are alike":          auto(3, []api.Move{move('a', 'a', 1), move('b', 'b', 2)}),
	} {
		if e := dfa.Check(d); e != api.OK {
			t.Errorf("%s: got %d", name, e)
		}
	}
	for name, d := range wrong() {
		if e := dfa.Check(d); e != api.ErrAuto {
			t.Errorf("%s: got %d", name, e)
		}
	}
}

// pair is an automaton of whole numbers and names, by hand: 0 is the beginning, 1 a number, 2 a name, 3 a point that wants something behind it.
func pair() api.DFA {
	return accepting(auto(4,
		[]api.Move{move('0', '9', 1), move('A', 'Z', 2), move('a', 'z', 2)},
		[]api.Move{move('.', '.', 3), move('0', '9', 1)},
		[]api.Move{move(0, 0, 0), move('0', '9', 2), move('a', 'z', 2), move(0x80, 254, 2), move(255, 255, 3)},
		[]api.Move{move('0', '9', 1)}), -1, 7, 0, -1)
}

// P4.3: where a state goes by a byte.
func TestNext(t *testing.T) {
	for _, x := range []struct {
		s    int
		c    byte
		want int
	}{
		{0, '0', 1}, {0, '5', 1}, {0, '9', 1}, {0, 'A', 2}, {0, 'Z', 2}, {0, 'a', 2}, {0, 'z', 2},
		{0, '/', -1}, {0, ':', -1}, {0, '@', -1}, {0, '[', -1}, {0, '`', -1}, {0, '{', -1}, {0, 0, -1}, {0, 255, -1}, {0, '.', -1},
		{1, '.', 3}, {1, '-', -1}, {1, '/', -1}, {1, '0', 1}, {1, '9', 1}, {1, 'a', -1},
		{2, 0, 0}, {2, 1, -1}, {2, 0x7f, -1}, {2, 0x80, 2}, {2, 254, 2}, {2, 255, 3}, {2, 'm', 2}, {2, 'M', -1},
		{3, '0', 1}, {3, '.', -1}, {3, 255, -1},
		{-1, 'a', -1}, {4, 'a', -1}, {5, '0', -1}, {least, 'a', -1}, {most, 'a', -1}, {api.MaxStates, 'a', -1},
	} {
		if got := dfa.Next(pair(), x.s, x.c); got != x.want {
			t.Errorf("%d by %q: got %d", x.s, x.c, got)
		}
	}
}

// P4.3: Accept of the state that is reached by all of a text.
func TestRun(t *testing.T) {
	for s, want := range map[string]int{
		"":          -1, // there is a state, but it accepts none
		"0":         7,
		"42":        7,
		"4.2":       7,
		"4.":        -1,
		"4..2":      -1,
		"4.2.1.0":   7,
		"a":         0,
		"Ab9":       0,
		"AB":        -1,
		"4a":        -1,
		"a.":        -1,
		"a\x00":     -1,
		"a\x007":    7,
		"a\xff":     -1,
		"a\xff7":    7,
		"ü":         -1,
		"aü":        0, // 195 and 188
		"a\x80\xfe": 0,
		"-":         -1,
		"-1":        -1, // what goes nowhere does not come back
		"a b":       -1,
	} {
		if got := dfa.Run(pair(), s); got != want {
			t.Errorf("%q: got %d", s, got)
		}
	}
	if got := dfa.Run(accepting(auto(1), 3), ""); got != 3 {
		t.Errorf("the empty text: got %d", got)
	}
	if got := dfa.Run(pair(), strings.Repeat("1.2", 1<<16)); got != 7 {
		t.Errorf("a long text: got %d", got)
	}
}

// P4.3: Run is Next, byte by byte.
func TestRunIsNext(t *testing.T) {
	d := pair()
	for _, c := range []string{"", "a1.\xff", "1.9z", "q\x00\x008"} {
		for n := range len(c) + 1 {
			s := 0
			for _, b := range []byte(c[:n]) {
				s = dfa.Next(d, s, b)
			}
			want := -1
			if s >= 0 {
				want = d.Accept[s]
			}
			if got := dfa.Run(d, c[:n]); got != want {
				t.Errorf("%q: got %d, want %d", c[:n], got, want)
			}
		}
	}
}

// R1: of what may not be nothing is said, but that the calls end.
func TestOthersEnd(t *testing.T) {
	for _, d := range wrong() {
		for _, s := range []int{0, 1, -1, len(d.Moves) - 1, len(d.Moves), len(d.Accept), least, most} {
			for _, c := range []byte("a\x00\xff") {
				dfa.Next(d, s, c)
			}
		}
		for _, s := range []string{"", "a", "aab", "\x00\xff"} {
			dfa.Run(d, s)
		}
	}
}

// R2: what was handed in stays what it is.
func TestWalksChangeNothing(t *testing.T) {
	d := pair()
	dfa.Check(d)
	dfa.Next(d, 0, 'a')
	dfa.Run(d, "a\x007.5")
	if told(d) != told(pair()) {
		t.Errorf("it is %s now", told(d))
	}
}

// told is an automaton in words: of each state what it accepts, and its moves: the bytes, and where they lead.
func told(d api.DFA) string {
	var out []string
	for i, l := range d.Moves {
		s := strconv.Itoa(d.Accept[i])
		for _, m := range l {
			s += " " + name(m.Lo)
			if m.Hi != m.Lo {
				s += "-" + name(m.Hi)
			}
			s += strconv.Itoa(m.To)
		}
		out = append(out, s)
	}
	return strings.Join(out, "; ")
}

// name is a byte, in words if it can't be shown.
func name(c byte) string {
	if c > ' ' && c < 0x7f {
		return string(rune(c))
	}
	return "<" + strconv.Itoa(int(c)) + ">"
}

func TestTold(t *testing.T) {
	want := []string{"-1 0-91 A-Z2 a-z2", "7 .3 0-91", "0 <0>0 0-92 a-z2 <128>-<254>2 <255>3", "-1 0-91"}
	if got := strings.Split(told(pair()), "; "); !slices.Equal(got, want) {
		t.Errorf("got %q", got)
	}
}
