package lexer_test

import (
	"slices"
	"strconv"
	"strings"
	"testing"

	"quincunx/api"
	"quincunx/dfa"
	"quincunx/least"
	"quincunx/lexer"
	"quincunx/nfa"
	"quincunx/regex"
)

// rules makes a lexer's rules of texts: a name, =, an expression; of one that is passed over a - stands ahead.
func rules(l ...string) []api.LexRule {
	var out []api.LexRule
	for _, s := range l {
		s, skip := strings.CutPrefix(s, "-")
		name, re, _ := strings.Cut(s, "=")
		out = append(out, api.LexRule{Name: name, Re: re, Skip: skip})
	}
	return out
}

// made is the lexer of rules.
func made(t *testing.T, l ...string) api.Lexer {
	t.Helper()
	x, at, e := lexer.Make(rules(l...))
	if at != 0 || e != api.OK {
		t.Fatalf("%q: got %d, %d", l, at, e)
	}
	return x
}

// told is an automaton in words: of each state what it accepts, and its moves: the bytes, and where they lead.
func told(d api.DFA) string {
	var out []string
	for i, l := range d.Moves {
		s := strconv.Itoa(d.Accept[i])
		for _, m := range l {
			s += " " + strconv.QuoteToASCII(string([]byte{m.Lo})) + "-" + strconv.QuoteToASCII(string([]byte{m.Hi})) + strconv.Itoa(m.To)
		}
		out = append(out, s)
	}
	return strings.ReplaceAll(strings.Join(out, "; "), `"`, "")
}

// isNothing tells whether a lexer has nothing in it.
func isNothing(x api.Lexer) bool {
	return len(x.Names) == 0 && len(x.Skip) == 0 && len(x.D.Moves) == 0 && len(x.D.Accept) == 0
}

const letters = "ABCDEFGHIJKLMNOPQRSTUVWXYZabcdefghijklmnopqrstuvwxyz_"

// P6.1: which bytes a name may begin with, and which may stand behind.
func TestIsNameOfBytes(t *testing.T) {
	for i := range 256 {
		c := string([]byte{byte(i)})
		first := strings.Contains(letters, c)
		behind := first || strings.Contains("0123456789", c)
		if lexer.IsName(c) != first {
			t.Errorf("%q: got %v", c, !first)
		}
		for s, want := range map[string]bool{"a" + c: behind, "Z9" + c: behind, "_" + c + "x": behind, c + "b": first, c + "__": first} {
			if lexer.IsName(s) != want {
				t.Errorf("%q: got %v", s, !want)
			}
		}
	}
}

// P6.1: how long a name may be, and others that are none.
func TestIsName(t *testing.T) {
	for s, want := range map[string]bool{
		"":                            false,
		"x":                           true,
		"if":                          true,
		"Some_Name_1":                 true,
		"0":                           false,
		"1st":                         false,
		"_1":                          true,
		"a b":                         false,
		" a":                          false,
		"a ":                          false,
		"a\n":                         false,
		"a-b":                         false,
		"é":                           false,
		"aé":                          false,
		"a\xff":                       false,
		strings.Repeat("a", 31):       true,
		strings.Repeat("a", 32):       true,
		strings.Repeat("a", 33):       false,
		strings.Repeat("_", 32):       true,
		"a" + strings.Repeat("9", 31): true,
		"a" + strings.Repeat("9", 32): false,
		strings.Repeat("a", 31) + "-": false,
		strings.Repeat("a", 5000):     false,
	} {
		if lexer.IsName(s) != want {
			t.Errorf("%q: got %v", s, !want)
		}
	}
}

// P6.2: lexers, name by name and move by move.
func TestMake(t *testing.T) {
	for _, x := range []struct {
		rules []string
		names string
		skip  []bool
		d     string
	}{
		{nil, "", nil, "-1"},
		{[]string{"a=a"}, "a", []bool{false}, "-1 a-a1; 0"},
		{[]string{"-a=a"}, "a", []bool{true}, "-1 a-a1; 0"},
		{[]string{"empty="}, "empty", []bool{false}, "0"},
		{[]string{"x=a|b"}, "x", []bool{false}, "-1 a-b1; 0"}, // the least one
		{[]string{"x=a", "-y=b", "z=a"}, "x y z", []bool{false, true, false}, "-1 a-a1 b-b2; 0; 1"},
		{[]string{"y=b", "x=a"}, "y x", []bool{false, false}, "-1 a-a1 b-b2; 1; 0"},
		{[]string{"a=x", "A=y", "_=z", "a_=w"}, "a A _ a_", make([]bool, 4), "-1 w-w1 x-x2 y-y3 z-z4; 3; 0; 1; 2"},
		{[]string{"if=if", "id=[a-z]+", "-blank= +"}, "if id blank", []bool{false, false, true}, "-1  - 1 a-h2 i-i3 j-z2; 2  - 1; 1 a-z2; 1 a-e2 f-f4 g-z2; 0 a-z2"},
		{[]string{"id=[a-z]+", "if=if"}, "id if", []bool{false, false}, "-1 a-z1; 0 a-z1"},
		{[]string{`all=[\x00-\xff]*`}, "all", []bool{false}, `0 \x00-\xff0`},
	} {
		got, at, e := lexer.Make(rules(x.rules...))
		if strings.Join(got.Names, " ") != x.names || !slices.Equal(got.Skip, x.skip) || told(got.D) != x.d || at != 0 || e != api.OK {
			t.Errorf("%q: got %q, %v, %s, %d, %d", x.rules, got.Names, got.Skip, told(got.D), at, e)
		}
	}
}

// many are so many rules: r0, r1, and on, each of its own two bytes.
func many(n int) []api.LexRule {
	l := make([]api.LexRule, n)
	for i := range l {
		l[i] = api.LexRule{Name: "r" + strconv.Itoa(i), Re: string([]byte{'0' + byte(i/10), '0' + byte(i%10)}), Skip: i%3 == 0}
	}
	return l
}

// P6.2: as many rules as there may be.
func TestMakeOfMany(t *testing.T) {
	l := many(api.MaxRules)
	x, at, e := lexer.Make(l)
	if at != 0 || e != api.OK || len(x.Names) != api.MaxRules || len(x.Skip) != api.MaxRules {
		t.Fatalf("got %d names, %d, %d", len(x.Names), at, e)
	}
	for i, rule := range l {
		if x.Names[i] != rule.Name || x.Skip[i] != rule.Skip || dfa.Run(x.D, rule.Re) != i {
			t.Errorf("%d: got %q, %v", i, x.Names[i], x.Skip[i])
		}
	}
}

// P6.2: D is what the layers below make of all rules' expressions, in order.
func TestMakeIsOfAll(t *testing.T) {
	for _, l := range [][]string{{"a=a*", "b=ab|c"}, {"b=ab|c", "a=a*"}, {"x=(a|b)*abb", "y=[^a]", "z=", "w=.+"}, {"n=[0-9]+", `f=[0-9]+\.[0-9]+`, `s="[^"]*"`}} {
		var all []api.Re
		for _, rule := range rules(l...) {
			r, _, _ := regex.Parse(rule.Re)
			all = append(all, r)
		}
		n, _ := nfa.Build(all)
		d, _ := dfa.Build(n)
		want, e := least.Build(d)
		if got := made(t, l...).D; told(got) != told(want) || e != api.OK {
			t.Errorf("%q: got %s, want %s", l, told(got), told(want))
		}
	}
}

// fork is a text whose automaton must know of each of the last n + 1 bytes whether it was an a.
func fork(n int) string {
	return "(a|b)*a" + strings.Repeat("[ab]", n)
}

// P6.2: what is refused, and at which rule.
func TestMakeRefuses(t *testing.T) {
	long, deep := strings.Repeat("a", api.MaxText+1), "a"+strings.Repeat("*", api.MaxDeep)
	tooMany := many(api.MaxRules + 1)
	tooManyAndWrong := many(api.MaxRules + 1)
	tooManyAndWrong[0].Name, tooManyAndWrong[1].Re = "", "*"
	lastWrong, lastTwice, lastDeep := many(api.MaxRules), many(api.MaxRules), many(api.MaxRules)
	lastWrong[59].Re = "("
	lastTwice[59].Name = "r0"
	lastDeep[59].Re = deep
	chain := strings.Repeat("c", 999) // of so many states, without the first one
	for _, x := range []struct {
		name string
		l    []api.LexRule
		at   int
		want api.Errno
	}{
		{"one rule too many", tooMany, 0, api.ErrLong},
		{"far too many", many(100), 0, api.ErrLong},
		{"too many, and wrong", tooManyAndWrong, 0, api.ErrLong},
		{"no name", rules("=a"), 0, api.ErrArg},
		{"a digit first", rules("a=a", "1=b"), 1, api.ErrArg},
		{"a name too long", rules("a=a", "b=b", strings.Repeat("c", 33)+"=c"), 2, api.ErrArg},
		{"a blank behind", rules("a=a", "b =b"), 1, api.ErrArg},
		{"a name twice", rules("a=a", "a=b"), 1, api.ErrArg},
		{"a name twice, the whole rule", rules("a=a", "a=a"), 1, api.ErrArg},
		{"a name twice, passed over", rules("a=a", "-a=b"), 1, api.ErrArg},
		{"a name twice, others between", rules("a=a", "b=b", "c=c", "b=d"), 3, api.ErrArg},
		{"a name of all twice", lastTwice, 59, api.ErrArg},
		{"two are wrong", rules("a=a", "=b", "a=c"), 1, api.ErrArg},
		{"no expression", rules("a=*"), 0, api.ErrRegex},
		{"no expression, farther in", rules("a=a", "b=b", "c=abc)"), 2, api.ErrRegex},
		{"no expression, the last one", lastWrong, 59, api.ErrRegex},
		{"an expression too long", rules("a=a", "b="+long), 1, api.ErrLong},
		{"an expression too deep", rules("a=a", "b="+deep), 1, api.ErrDeep},
		{"an expression too deep, the last one", lastDeep, 59, api.ErrDeep},
		{"no name, no expression", rules("a=a", "=*"), 1, api.ErrArg},
		{"a name twice, no expression", rules("a=a", "a=*"), 1, api.ErrArg},
		{"no expression, then no name", rules("a=*", "=b"), 0, api.ErrRegex},
		{"no expression, then too long", rules("a=*", "b="+long), 0, api.ErrRegex},
		{"too long, then no expression", rules("a="+long, "b=*"), 0, api.ErrLong},
		{"too deep, then no name", rules("a=a", "b="+deep, "=a"), 1, api.ErrDeep},
		{"no name, then too deep", rules("a=a", "=a", "b="+deep), 1, api.ErrArg},
		{"the name of one that is no expression", rules("a=*", "a=a"), 0, api.ErrRegex},
		{"states of one", rules("a=" + strings.Repeat("c", api.MaxStates)), 0, api.ErrStates},
		{"states of all", rules("a="+chain, "b="+chain, "c=cc"), 0, api.ErrStates},
		{"states, if the least are few", rules("a=" + strings.Repeat("c|", 1500) + "c"), 0, api.ErrStates},
		{"states of one way", rules("a=a", "b=b", "c="+fork(10)), 0, api.ErrStates},
		{"states of one way, if the least is one", rules("a=" + fork(10) + "|[ab]*"), 0, api.ErrStates},
		{"states, then no name", rules("a="+strings.Repeat("c", api.MaxStates), "b=b", "1=c"), 2, api.ErrArg},
		{"states, then no expression", rules("a="+fork(10), "b=b", "c=["), 2, api.ErrRegex},
	} {
		if got, at, e := lexer.Make(x.l); !isNothing(got) || at != x.at || e != x.want {
			t.Errorf("%s: got %d states, %d, %d, want %d, %d", x.name, len(got.D.Moves), at, e, x.at, x.want)
		}
	}
}

// P6.2: what just goes.
func TestMakeTakesMost(t *testing.T) {
	chain := strings.Repeat("c", 999)
	for _, x := range []struct {
		name   string
		l      []api.LexRule
		states int
	}{
		{"the longest name", rules(strings.Repeat("n", 32) + "=a"), 2},
		{"the longest expression", rules("a=[" + strings.Repeat("a", api.MaxText-2) + "]"), 2},
		{"the deepest expression", rules("a=a" + strings.Repeat("*", api.MaxDeep-1)), 1},
		{"the most states of one", rules("a=" + strings.Repeat("c", api.MaxStates-1)), api.MaxStates},
		{"the most states of all", rules("a="+chain, "b="+chain, "c=c"), 1000},
		{"the most states of one way", rules("a="+fork(9), "b="+strings.Repeat("c", api.MaxStates-1025)), api.MaxStates},
	} {
		if got, at, e := lexer.Make(x.l); len(got.D.Moves) != x.states || len(got.D.Accept) != x.states || at != 0 || e != api.OK {
			t.Errorf("%s: got %d states, %d, %d", x.name, len(got.D.Moves), at, e)
		}
	}
}

// P6.3: tokens' names.
func TestKinds(t *testing.T) {
	x := made(t, "if=if", "-blank= ", "id=[a-z]+")
	for _, c := range []struct {
		rules []int
		want  string
	}{
		{nil, ""},
		{[]int{0}, "if"},
		{[]int{2, 0, 2, 2}, "id if id id"},
		{[]int{1}, "blank"}, // of one that is passed over too
		{[]int{3}, "?"},
		{[]int{-1}, "?"},
		{[]int{0, -1, 2, 3, 1}, "if ? id ? blank"},
		{[]int{1<<63 - 1, -1 << 63}, "? ?"},
	} {
		var l []api.Tok
		for i, rule := range c.rules {
			l = append(l, api.Tok{Rule: rule, At: 7 - i, Len: i})
		}
		if got := lexer.Kinds(x, l); strings.Join(got, " ") != c.want || len(got) != len(l) {
			t.Errorf("%v: got %q", c.rules, got)
		}
	}
	if got := lexer.Kinds(api.Lexer{}, []api.Tok{{}, {Rule: 1}}); !slices.Equal(got, []string{"?", "?"}) {
		t.Errorf("of no rules: got %q", got)
	}
}

// R2, R5: rules that were handed in stay what they are, and may be written into later; lexers are the caller's own.
func TestMakeSharesNothing(t *testing.T) {
	fresh := func() []api.LexRule { return rules("if=if", "-blank= +", "id=[a-z]+") }
	l := fresh()
	x, _, _ := lexer.Make(l)
	y, _, _ := lexer.Make(l)
	if !slices.Equal(l, fresh()) {
		t.Errorf("they are %v now", l)
	}
	want := told(x.D)
	if told(y.D) != want || !slices.Equal(y.Names, x.Names) || !slices.Equal(y.Skip, x.Skip) {
		t.Errorf("got %v, then %v", x, y)
	}
	l[0] = api.LexRule{Name: "other", Re: "b", Skip: true}
	x.Names[2], x.Skip[1] = "other", false
	for i := range x.D.Accept {
		x.D.Accept[i] = 5
		clear(x.D.Moves[i])
	}
	if told(y.D) != want || !slices.Equal(y.Names, []string{"if", "blank", "id"}) || !slices.Equal(y.Skip, []bool{false, true, false}) {
		t.Errorf("got %v", y)
	}
}
