package lexer_test

import (
	"math/rand"
	"slices"
	"strconv"
	"strings"
	"testing"

	"quincunx/api"
	"quincunx/dfa"
	"quincunx/lexer"
	"quincunx/regex"
)

// words are tokens in words: of each the rule, where it begins, and how long it is.
func words(l []api.Tok) string {
	var out []string
	for _, tok := range l {
		out = append(out, strconv.Itoa(tok.Rule)+":"+strconv.Itoa(tok.At)+"+"+strconv.Itoa(tok.Len))
	}
	return strings.Join(out, " ")
}

// P6.3: texts and their tokens.
func TestScan(t *testing.T) {
	ifs := []string{"if=if", "id=[a-z]+", "-blank= +"}
	for _, x := range []struct {
		rules   []string
		s, want string
	}{
		{ifs, "if iffy", "0:0+2 1:3+4"}, // the chapter's example
		{ifs, "", ""},
		{ifs, "if", "0:0+2"},
		{ifs, "i", "1:0+1"},
		{ifs, "ifif", "1:0+4"},
		{ifs, "if if", "0:0+2 0:3+2"},
		{ifs, "   ", ""},
		{ifs, "  if   x ", "0:2+2 1:7+1"},
		{ifs, "a b  c", "1:0+1 1:2+1 1:5+1"},
		{nil, "", ""},
		{[]string{"a=a"}, "aaa", "0:0+1 0:1+1 0:2+1"},
		{[]string{"-a=a"}, "aaa", ""},
		{[]string{"b=b", "a=a"}, "abba", "1:0+1 0:1+1 0:2+1 1:3+1"},
		// the longest one
		{[]string{"a=a", "aa=aa"}, "aaaaa", "1:0+2 1:2+2 0:4+1"},
		{[]string{"aa=aa", "a=a"}, "aaaaa", "0:0+2 0:2+2 1:4+1"},
		{[]string{"lt=<", "le=<=", "eq=="}, "<<=<==", "0:0+1 1:1+2 1:3+2 2:5+1"},
		{[]string{"a=a", "b=b", "abc=abc"}, "ababcab", "0:0+1 1:1+1 2:2+3 0:5+1 1:6+1"}, // not by what leads on only
		{[]string{"a=a", "b=b", "long=aaaaab"}, "aaaaaaaba", "0:0+1 0:1+1 2:2+6 0:8+1"},
		{[]string{"n=[0-9]+", `f=[0-9]+\.[0-9]+`, `dot=\.`}, "1.2.3.", "1:0+3 2:3+1 0:4+1 2:5+1"},
		{[]string{"n=[0-9]+", "e=[0-9]+e[0-9]+", "id=[a-z]"}, "12e3e", "1:0+4 2:4+1"},
		{[]string{"a=a(bb)*", "b=b"}, "abbbabbbb", "0:0+3 1:3+1 0:4+5"},
		{[]string{"div=/", `-note=//[^\n]*`, `-end=\n`}, "///\n/", "0:4+1"},
		// of several, the first rule
		{[]string{"x=a", "y=a"}, "aa", "0:0+1 0:1+1"},
		{[]string{"all=[a-z]+", "if=if"}, "if", "0:0+2"},
		{[]string{"-w=[a-z]+", "if=if"}, "if", ""},
		{[]string{"if=if", "-w=[a-z]+"}, "ififif", ""},
		{[]string{"x=ab?", "y=ab", "z=a"}, "aba", "0:0+2 0:2+1"},
		{[]string{"z=a", "y=ab", "x=ab?"}, "aba", "1:0+2 0:2+1"},
		// of none at least one byte
		{[]string{"a=a*"}, "aaa", "0:0+3"},
		{[]string{"a=a*"}, "", ""},
		{[]string{"empty=", "a=a"}, "aa", "1:0+1 1:1+1"},
		{[]string{"empty=()*", "a=a*", "b=b*"}, "aabba", "1:0+2 2:2+2 1:4+1"},
		// bytes of all kinds
		{[]string{`low=\x00`, `high=\xff`, `end=\n`, "other=."}, "\x00\xff\n\x80\xfe", "0:0+1 1:1+1 2:2+1 3:3+1 3:4+1"},
		{[]string{"word=(é)+", "-half=\xc3"}, "éé\xc3é", "0:0+4 0:5+2"},
		{[]string{`all=[\x00-\xff]+`}, "any \n\x00 text", "0:0+11"},
	} {
		got, at, e := lexer.Scan(made(t, x.rules...), x.s)
		if words(got) != x.want || at != 0 || e != api.OK {
			t.Errorf("%q, %q: got %s, %d, %d, want %s", x.rules, x.s, words(got), at, e, x.want)
		}
	}
}

// P6.3: where there is no token.
func TestScanRefuses(t *testing.T) {
	ifs := []string{"if=if", "id=[a-z]+", "-blank= +"}
	for _, x := range []struct {
		rules []string
		s     string
		want  int
	}{
		{ifs, "if 1", 3}, // the chapter's example
		{ifs, "1", 0},
		{ifs, "A", 0},
		{ifs, "if  if\n", 6},
		{ifs, "ifA", 2},
		{ifs, "a b c d\x00", 7},
		{ifs, "a\xffb\xff", 1}, // the first place of several
		{nil, "a", 0},
		{[]string{"empty="}, "a", 0},
		{[]string{"a=a*"}, "b", 0},
		{[]string{"a=a*"}, "aab", 2},
		{[]string{"b=bb"}, "bbb", 2}, // where it begins, not where it would go on
		{[]string{"b=bbbb"}, "bbb", 0},
		{[]string{"a=a", "abc=abc"}, "abab", 1},
		{[]string{"a=a", "abc=abc"}, "aaabc" + "ab", 6},
		{[]string{`s="[^"]*"`, "-w= "}, `"a" "b`, 4},
		{[]string{`-s="[^"]*"`, "-w= "}, `"a" "b`, 4},
		{[]string{"aa=aa"}, "aaaaa", 4}, // also if others would be cut so that all goes
		{[]string{"a=a|aab", "bac=bac"}, "aabac", 4},
	} {
		got, at, e := lexer.Scan(made(t, x.rules...), x.s)
		if len(got) != 0 || at != x.want || e != api.ErrToken {
			t.Errorf("%q, %q: got %s, %d, %d, want %d", x.rules, x.s, words(got), at, e, x.want)
		}
	}
}

// matched is an expression's text, and the expression.
type matched struct {
	text string
	r    api.Re
}

// someRules are a few rules of short expressions of a, b and c.
func someRules(r *rand.Rand, res []matched) ([]api.LexRule, []api.Re) {
	var l []api.LexRule
	var all []api.Re
	for i := range 1 + r.Intn(5) {
		x := res[r.Intn(len(res))]
		l = append(l, api.LexRule{Name: "r" + strconv.Itoa(i), Re: x.text, Skip: r.Intn(4) == 0})
		all = append(all, x.r)
	}
	return l, all
}

func read(t *testing.T, texts string) []matched {
	t.Helper()
	var out []matched
	for _, s := range strings.Fields(texts) {
		r, _, e := regex.Parse(s)
		if e != api.OK {
			t.Fatalf("%q: got %d", s, e)
		}
		out = append(out, matched{s, r})
	}
	return out
}

// someText is one of a, b and c, and seldom another byte.
func someText(r *rand.Rand, long int) string {
	b := make([]byte, r.Intn(long+1))
	for i := range b {
		b[i] = "aaaaabbbbbccccccc~"[r.Intn(18)]
	}
	return string(b)
}

// byWords is what Scan says, made as the chapter has it: of each place the longest text that an expression matches, and the first of these.
func byWords(l []api.LexRule, all []api.Re, s string) ([]api.Tok, int, api.Errno) {
	first := func(s string) int {
		return slices.IndexFunc(all, func(r api.Re) bool { return regex.Match(r, s) })
	}
	var out []api.Tok
	for at := 0; at < len(s); {
		n := len(s) - at
		for n > 0 && first(s[at:at+n]) < 0 {
			n--
		}
		if n == 0 {
			return nil, at, api.ErrToken
		}
		if rule := first(s[at : at+n]); !l[rule].Skip {
			out = append(out, api.Tok{Rule: rule, At: at, Len: n})
		}
		at += n
	}
	return out, 0, api.OK
}

// P6.3, P6.4: many lexers and texts, against the expressions.
func TestScanOfMany(t *testing.T) {
	r := rand.New(rand.NewSource(61))
	res := read(t, "a b c ab ba abc a* b+ c? (ab)* (ab)+ (a|b)* (a|b)*c a*b a*bc (ab|c)+ [ab] [a-c] a(bc)*b? aab|b . [^a]+ (abc|ab)c* a?b?c? ca*c bb+a () (a|b)*abb c(a|b|c)*c ~")
	good, tokens, passed := 0, 0, 0
	for range 4000 {
		l, all := someRules(r, res)
		x, _, e := lexer.Make(l)
		if e != api.OK {
			t.Fatalf("%v: got %d", l, e)
		}
		for range 5 {
			s := someText(r, 12)
			want, wantAt, wantE := byWords(l, all, s)
			got, at, e := lexer.Scan(x, s)
			if !slices.Equal(got, want) || at != wantAt || e != wantE {
				t.Fatalf("%v, %q: got %s, %d, %d, want %s, %d, %d", l, s, words(got), at, e, words(want), wantAt, wantE)
			}
			for i, name := range lexer.Kinds(x, got) {
				if name != l[got[i].Rule].Name {
					t.Fatalf("%v, %q: got %q", l, s, name)
				}
			}
			if e == api.OK {
				good++
				tokens += len(got)
				for _, tok := range got {
					passed -= tok.Len
				}
				passed += len(s)
			}
		}
	}
	if good < 4000 || good > 16000 || tokens < 8000 || passed < 2000 {
		t.Errorf("%d texts go, of %d tokens, %d bytes are passed over: they tell too little", good, tokens, passed)
	}
}

// P6.4: tokens and what is passed over are all of the text, and what is passed over is what would be tokens else.
func TestScanIsAll(t *testing.T) {
	r := rand.New(rand.NewSource(62))
	res := read(t, "a b c ab bc a+ (ab)+ [bc]+ a*b c+a? (a|b)+c ~+")
	passed := 0
	for range 5000 {
		l, _ := someRules(r, res)
		x, _, _ := lexer.Make(l)
		y := x
		y.Skip = make([]bool, len(x.Skip))
		s := someText(r, 40)
		all, at, e := lexer.Scan(y, s)
		got, at2, e2 := lexer.Scan(x, s)
		if at != at2 || e != e2 {
			t.Fatalf("%v, %q: got %d, %d, and %d, %d", l, s, at, e, at2, e2)
		}
		if e != api.OK {
			continue
		}
		end, kept := 0, []api.Tok(nil)
		for _, tok := range all {
			if tok.At != end || tok.Len < 1 {
				t.Fatalf("%v, %q: got %s", l, s, words(all))
			}
			end += tok.Len
			if !x.Skip[tok.Rule] {
				kept = append(kept, tok)
			}
		}
		if end != len(s) || !slices.Equal(got, kept) {
			t.Fatalf("%v, %q: got %s, of %s", l, s, words(got), words(all))
		}
		passed += len(all) - len(got)
	}
	if passed < 500 {
		t.Errorf("%d are passed over: they tell too little", passed)
	}
}

// plain cuts a text all of whose tokens are told, byte by byte, with nothing kept.
func plain(x api.Lexer, s string) ([]api.Tok, int, api.Errno) {
	var out []api.Tok
	for at := 0; at < len(s); {
		tok := api.Tok{At: at}
		for state, i := 0, at; i < len(s); i++ {
			if state = dfa.Next(x.D, state, s[i]); state < 0 {
				break
			}
			if x.D.Accept[state] >= 0 {
				tok.Rule, tok.Len = x.D.Accept[state], i+1-at
			}
		}
		if tok.Len == 0 {
			return nil, at, api.ErrToken
		}
		out = append(out, tok)
		at += tok.Len
	}
	return out, 0, api.OK
}

// P6.3: long texts, where what is left is often gone through in vain, from several states.
func TestScanOfLong(t *testing.T) {
	r := rand.New(rand.NewSource(63))
	good, longest := 0, 0
	for _, l := range [][]string{
		{"a=a", "c=a*c"},
		{"a=a", "c=(aa)*c", "b=b", "d=c"},
		{"a=a", "b=b", "c=c", "d=(a|b)*cc"},
		{"a=a", "b=b", "c=c", "d=(aaa|b|aab)*cc"},
		{"a=a", "b=b", "c=c", "ab=(a|b)*a(a|b)(a|b)cc", "d=(aa|bb|ab)*ac"},
		{"a=a", "b=b", "c=c+", "d=(a|b)*c(a|b)*c(a|b)*cc"},
		{"a=a", "b=b", "c=c", "d=[ab]*c[ab]*c[ab]*c[ab]*d", "e=(a[ab]b|bb)*cb"},
		{"a=a", "b=b", "c=c", "d=(aa)*(bb)*c(a|b)*d", "e=(aaa|b)*cac"},
		{"a=a*", "b=b", "d=a*b(aab|b|a)*d"},
	} {
		x := made(t, l...)
		for i := range 40 {
			b := make([]byte, 200+r.Intn(1500))
			for k := range b {
				b[k] = "aaaabbbbb"[r.Intn(4+i%2*5)]
			}
			for range r.Intn(5) {
				b[r.Intn(len(b))] = "ccd"[r.Intn(3)]
			}
			s := string(b) + "cc"[:r.Intn(3)]
			want, wantAt, wantE := plain(x, s)
			got, at, e := lexer.Scan(x, s)
			if !slices.Equal(got, want) || at != wantAt || e != wantE {
				t.Fatalf("%q, %q: got %d tokens, %d, %d, want %d, %d, %d", l, s, len(got), at, e, len(want), wantAt, wantE)
			}
			if e == api.OK {
				good++
			}
			for _, tok := range got {
				longest = max(longest, tok.Len)
			}
		}
	}
	if good < 100 || longest < 1000 {
		t.Errorf("%d texts go, %d is the longest token: they tell too little", good, longest)
	}
}

// P6.3: it ends in time also if from each token on all that is left leads on, but to nothing: to go through it each time would be some 2^37 steps.
func TestScanEnds(t *testing.T) {
	const n = 1 << 19
	for _, x := range []struct {
		name   string
		rules  []string
		s      string
		tokens int
		at     int
	}{
		{"ever the same state", []string{"a=a", "b=a*b"}, strings.Repeat("a", n), n, 0},
		{"some states", []string{"a=a", "b=(aaaaaaa)*b"}, strings.Repeat("a", n), n, 0},
		{"with no token at the end", []string{"a=a", "b=a*b"}, strings.Repeat("a", n) + "~", 0, n},
		{"one long token", []string{"a=a", "b=a*b"}, strings.Repeat("a", n) + "b", 1, 0},
		{"texts in quotes, the last one open", []string{`q="`, "x=[x ]", `s="[^"]*"!`}, strings.Repeat(`"x x `, n/4), 5 * n / 4, 0},
		{"half of it", []string{"a=a", "b=b", "c=a*b*c"}, strings.Repeat("a", n/2) + strings.Repeat("b", n/2), n, 0},
	} {
		got, at, e := lexer.Scan(made(t, x.rules...), x.s)
		if len(got) != x.tokens || at != x.at || (e == api.OK) != (x.at == 0) {
			t.Errorf("%s: got %d tokens, %d, %d", x.name, len(got), at, e)
		}
	}
}

// P6.3: of lexers that Make does not make the calls end.
func TestScanOfOthers(t *testing.T) {
	move := func(lo, hi byte, to int) []api.Move { return []api.Move{{Lo: lo, Hi: hi, To: to}} }
	for name, x := range map[string]api.Lexer{
		"nothing":                   {},
		"names alone":               {Names: []string{"a"}, Skip: []bool{true}},
		"no Accept":                 {D: api.DFA{Moves: [][]api.Move{move('a', 'z', 0)}}},
		"no Moves":                  {D: api.DFA{Accept: []int{0}}},
		"no Skip":                   {Names: []string{"a"}, D: api.DFA{Moves: [][]api.Move{move('a', 'z', 0)}, Accept: []int{0}}},
		"a rule that there is not":  {Names: []string{"a"}, Skip: []bool{true}, D: api.DFA{Moves: [][]api.Move{move('a', 'z', 0)}, Accept: []int{1<<63 - 1}}},
		"a rule below none":         {Names: []string{"a"}, Skip: []bool{true}, D: api.DFA{Moves: [][]api.Move{move('a', 'z', 0)}, Accept: []int{-2}}},
		"the least rule":            {Names: []string{"a"}, Skip: []bool{true}, D: api.DFA{Moves: [][]api.Move{move('a', 'z', 0)}, Accept: []int{-1 << 63}}},
		"a move to no state":        {Names: []string{"a"}, Skip: []bool{false}, D: api.DFA{Moves: [][]api.Move{move('a', 'z', 1)}, Accept: []int{0}}},
		"a move far off":            {Names: []string{"a"}, Skip: []bool{false}, D: api.DFA{Moves: [][]api.Move{move('a', 'z', 1<<63-1)}, Accept: []int{0}}},
		"a move below none":         {Names: []string{"a"}, Skip: []bool{false}, D: api.DFA{Moves: [][]api.Move{move('a', 'z', -2)}, Accept: []int{0}}},
		"the least move":            {Names: []string{"a"}, Skip: []bool{false}, D: api.DFA{Moves: [][]api.Move{move('a', 'z', -1<<63)}, Accept: []int{0}}},
		"an Accept too few":         {Names: []string{"a"}, Skip: []bool{false}, D: api.DFA{Moves: [][]api.Move{move('a', 'z', 1), move('a', 'b', 0)}, Accept: []int{0}}},
		"a move that is none":       {Names: []string{"a"}, Skip: []bool{false}, D: api.DFA{Moves: [][]api.Move{move('z', 'a', 0)}, Accept: []int{0}}},
		"what is accepted at first": {Names: []string{"a"}, Skip: []bool{false}, D: api.DFA{Moves: [][]api.Move{nil}, Accept: []int{0}}},
		"a dead state that goes on": {Names: []string{"a"}, Skip: []bool{false}, D: api.DFA{Moves: [][]api.Move{move('a', 'z', 1), move('a', 'z', 1)}, Accept: []int{0, -1}}},
	} {
		for _, s := range []string{"", "a", "ab", "z\x00\xff", strings.Repeat("ab", 2000)} {
			l, _, _ := lexer.Scan(x, s)
			if got := lexer.Kinds(x, l); len(got) != len(l) {
				t.Errorf("%s, %q: got %d names of %d tokens", name, s, len(got), len(l))
			}
		}
	}
}

// R2, R5: a lexer stays what it is, tokens are the caller's own, and the answer is the same again.
func TestScanChangesNothing(t *testing.T) {
	x, fresh := made(t, "if=if", "id=[a-z]+", "-blank= +"), made(t, "if=if", "id=[a-z]+", "-blank= +")
	const s, want = "if  iffy x if", "0:0+2 1:4+4 1:9+1 0:11+2"
	first, _, _ := lexer.Scan(x, s)
	for range 3 {
		got, at, e := lexer.Scan(x, s)
		if words(got) != want || at != 0 || e != api.OK {
			t.Errorf("got %s, %d, %d", words(got), at, e)
		}
		lexer.Kinds(x, got)[0] = "other"
		clear(got)
		lexer.Scan(x, "if 1")
	}
	if words(first) != want {
		t.Errorf("the first one is %s now", words(first))
	}
	if told(x.D) != told(fresh.D) || !slices.Equal(x.Names, fresh.Names) || !slices.Equal(x.Skip, fresh.Skip) {
		t.Errorf("it is %v now", x)
	}
}
