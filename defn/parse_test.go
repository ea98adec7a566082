package defn_test

import (
	"fmt"
	"math/rand"
	"slices"
	"strings"
	"testing"

	"quincunx/api"
	"quincunx/defn"
	"quincunx/derive"
	"quincunx/parse"
	"quincunx/regex"
	"quincunx/tree"
)

// tables are those of a definition's text.
func tables(t *testing.T, s string) api.Tables {
	t.Helper()
	x, part, at, e := defn.Compile(s)
	if e != api.OK {
		t.Fatalf("%q: got %d, %d, %d", s, part, at, e)
	}
	return x
}

// isNothing tells whether a tree has nothing in it.
func isNothing(n api.Tree) bool { return fmt.Sprint(n) == "{0 0 0 []}" }

const sums = `# sums, and names
skip blank [ \n]+
token if if
token plus \+
skip remark #[^\n]*
token num [0-9]+
token id [a-z]+
token open \(
token close \)
grammar
S = T R ; R = plus T R | ;
T = num | id | if T | open S close ;`

// P14.4: texts, and their trees.
func TestParse(t *testing.T) {
	for _, x := range []struct{ d, s, want string }{
		{example, "", "S()"},
		{example, "xy", "S(a S() b)"},
		{example, "x xx yy", "S(a S(a S() b) b)"},
		{example, "xxxy", "S(a S() b)"}, // xxx is one token
		{example, " x  xx y   y ", "S(a S(a S() b) b)"},
		{example, "   ", "S()"},
		{"token a x\ntoken b y\ngrammar\nS = a S b | ;", "xxyy", "S(a S(a S() b) b)"},
		{"grammar\nS=;", "", "S()"},
		{"skip w x\ngrammar\nS = T T ; T = ;", "xxx", "S(T() T())"},
		{"token b y\nskip w z\ntoken a x\ngrammar\nS = a S b | ;", "zxzzxyyz", "S(a S(a S() b) b)"},
		{sums, "1", "S(T(num) R())"},
		{sums, "if 12+iffy #+\n+(if(a)+\n0)#", "S(T(if T(num)) R(plus T(id) R(plus T(open S(T(if T(open S(T(id) R()) close)) R(plus T(num) R())) close) R())))"},
	} {
		y := tables(t, x.d)
		n, at, e := defn.Parse(y, x.s)
		if tree.Text(y.Cfg, n) != x.want || !tree.Check(y.Cfg, n, tree.Yield(n)) || at != 0 || e != api.OK {
			t.Errorf("%q: got %s, %d, %d", x.s, tree.Text(y.Cfg, n), at, e)
		}
	}
}

// P14.4: nodes, each with all that is in it: a token's place is that among the tokens, not that in the text.
func TestParseNodes(t *testing.T) {
	x := tables(t, "skip w z\ntoken b y\ntoken a x+\ngrammar\nS = a S b | ;")
	n, at, e := defn.Parse(x, "zxxzyz")
	want := "{-1 0 0 [{1 0 0 []} {-1 1 0 []} {0 0 1 []}]}"
	if got := fmt.Sprint(n); got != want || at != 0 || e != api.OK {
		t.Errorf("got %s, %d, %d, want %s", got, at, e, want)
	}
}

// P14.4: texts that are refused, and where.
func TestParseRefuses(t *testing.T) {
	for _, x := range []struct {
		d, s string
		at   int
		want api.Errno
	}{
		{example, "x", 1, api.ErrParse},
		{example, "xxx", 3, api.ErrParse},
		{example, "x  ", 3, api.ErrParse}, // the end of the text, not of the last token
		{example, "  xx", 4, api.ErrParse},
		{example, "xyy", 2, api.ErrParse},
		{example, "xx  y  yyy ", 7, api.ErrParse},
		{example, "y", 0, api.ErrParse},
		{example, "  y", 2, api.ErrParse},
		{example, " xxx  yx", 7, api.ErrParse},
		{example, "z", 0, api.ErrToken},
		{example, "x z", 2, api.ErrToken},
		{example, "  z", 2, api.ErrToken},
		{example, "x y z", 4, api.ErrToken},
		{example, "y yyy z", 6, api.ErrToken}, // ahead of what is no sentence
		{example, "xy\n", 2, api.ErrToken},
		{example, "xy\xff", 2, api.ErrToken},
		{"token a x\ntoken b y\ngrammar\nS = a S b | ;", "xyy", 2, api.ErrParse},
		{"token a x\ntoken b y\ngrammar\nS = a S b | ;", "xz", 1, api.ErrToken},
		{"grammar\nS=;", "x", 0, api.ErrToken},
		{"token a x\ngrammar\nS=;", "x", 0, api.ErrParse},
		{"token a x\ngrammar\nS=a;", "", 0, api.ErrParse},
		{"token a x\nskip w z\ngrammar\nS=a;", "zz", 2, api.ErrParse},
		{"token a x\nskip w z\ngrammar\nS=a;", "zxzzx", 4, api.ErrParse},
		{"token all xyz\ntoken a x\ngrammar\nS=a all;", "xxyxyz", 2, api.ErrToken}, // y alone is none
		{"token all xyz\ntoken a x\ngrammar\nS=a all;", "xx", 1, api.ErrParse},
		{"token a x\ntoken b x\ngrammar\nS=b;", "x", 0, api.ErrParse}, // the first rule's
		{"skip w x\ntoken a x\ngrammar\nS=a;", "x", 1, api.ErrParse},
		{"token e x*\ngrammar\nS=e;", "", 0, api.ErrParse}, // no token is empty
		{sums, "if 1 1", 5, api.ErrParse},
		{sums, "iffy + if", 9, api.ErrParse},
		{sums, "(1 + (2) # )\n", 13, api.ErrParse},
		{sums, "(1 + (2) # )\n +", 15, api.ErrParse},
		{sums, "1 + + 2", 4, api.ErrParse},
		{sums, "1 - 2", 2, api.ErrToken},
	} {
		y := tables(t, x.d)
		if n, at, e := defn.Parse(y, x.s); !isNothing(n) || at != x.at || e != x.want {
			t.Errorf("%.40q: %q: got %v, %d, %d, want %d, %d", x.d, x.s, n, at, e, x.at, x.want)
		}
	}
}

// P14.4: as many nodes as there may be, and one more; the place is that in the text.
func TestParseOfMostNodes(t *testing.T) {
	most := tables(t, "token a x\nskip w z\ngrammar\nS = a S | ;") // n tokens: 2n + 1 nodes
	even := tables(t, "token a x\nskip w z\ngrammar\nR = S ; S = a S | ;")
	for _, x := range []struct {
		t      api.Tables
		toks   int
		at     int
		want   api.Errno
		behind string
	}{
		{most, 9999, 0, api.OK, ""},
		{most, 9999, 0, api.OK, "zzz"},
		{most, 10000, 40000, api.ErrLong, ""}, // the node behind all tokens
		{most, 10000, 40003, api.ErrLong, "zzz"},
		{most, 10001, 40001, api.ErrLong, ""}, // the node ahead of the last one
		{most, 20000, 40001, api.ErrLong, ""},
		{even, 9999, 0, api.OK, "z"},
		{even, 10000, 39997, api.ErrLong, ""}, // the last token's
		{most, 20000, 80000, api.ErrToken, "y"},
	} {
		s := strings.Repeat("zxzz", x.toks) + x.behind
		n, at, e := defn.Parse(x.t, s)
		if at != x.at || e != x.want || isNothing(n) != (e != api.OK) || e == api.OK && len(tree.Yield(n)) != x.toks {
			t.Errorf("%d tokens, %q: got %d nodes, %d, %d, want %d, %d", x.toks, x.behind, tree.Size(n), at, e, x.at, x.want)
		}
	}
}

// cut cuts a text into tokens as the chapters' words tell it, by the rules' expressions alone; beside false it tells where none begins.
func cut(d api.Defn, s string) (l []api.Tok, at int, is bool) {
	var all []api.Re
	for _, rule := range d.Rules {
		r, _, _ := regex.Parse(rule.Re)
		all = append(all, r)
	}
	for at < len(s) {
		end := len(s)
		rule := -1
		for ; end > at && rule < 0; end-- {
			rule = slices.IndexFunc(all, func(r api.Re) bool { return regex.Match(r, s[at:end]) })
		}
		if rule < 0 {
			return nil, at, false
		}
		end++
		if !d.Rules[rule].Skip {
			l = append(l, api.Tok{Rule: rule, At: at, Len: end - at})
		}
		at = end
	}
	return l, at, true
}

// sentence is tokens' numbers: the places of their rules among those that are not passed over.
func sentence(d api.Defn, l []api.Tok) []int {
	toks := []int{}
	for _, tok := range l {
		n := 0
		for _, rule := range d.Rules[:tok.Rule] {
			if !rule.Skip {
				n++
			}
		}
		toks = append(toks, n)
	}
	return toks
}

// checkParse holds Parse against the words, and tells its error.
func checkParse(t *testing.T, d api.Defn, x api.Tables, s string) api.Errno {
	t.Helper()
	n, at, e := defn.Parse(x, s)
	l, place, is := cut(d, s)
	if !is {
		if !isNothing(n) || at != place || e != api.ErrToken {
			t.Fatalf("%+v: %q: got %v, %d, %d, want no token at %d", d, s, n, at, e, place)
		}
		return e
	}
	toks := sentence(d, l)
	if derive.Derives(x.Cfg, []int{-1}, toks) {
		if !tree.Check(x.Cfg, n, toks) || at != 0 || e != api.OK {
			t.Fatalf("%+v: %q: got %v, %d, %d, want a derivation of %v", d, s, n, at, e, toks)
		}
		return e
	}
	_, i, _ := parse.Parse(x.Cfg, x.Table, toks)
	place = len(s)
	if i < len(l) {
		place = l[i].At
	}
	if !isNothing(n) || at != place || e != api.ErrParse {
		t.Fatalf("%+v: %q: got %v, %d, %d, want it at %d", d, s, n, at, e, place)
	}
	return e
}

// P14.4, P14.5: many texts by many definitions: what is taken is cut into tokens that are a sentence.
func TestParseByWords(t *testing.T) {
	r := rand.New(rand.NewSource(5))
	seen := map[api.Errno]int{}
	for range 8000 {
		d := anyDefn(r)
		x, _, _, e := defn.Build(d)
		if e != api.OK {
			continue
		}
		for range 40 {
			s := ""
			for range r.Intn(8) {
				s += string("xxxyyyzz #\n"[r.Intn(11)])
			}
			seen[checkParse(t, d, x, s)]++
		}
	}
	if seen[api.OK] < 2000 || seen[api.ErrToken] < 2000 || seen[api.ErrParse] < 2000 {
		t.Errorf("got %v", seen)
	}
}

// P14.4, P14.5: all short texts by the example's definition, and by others.
func TestParseOfAllShort(t *testing.T) {
	for _, s := range []string{
		example,
		"skip w xy\ntoken b y\ntoken a x\ngrammar\nS = a S b | ;",
		"token b y\ntoken ab xy+\nskip w z\ntoken a x\ngrammar\nS = ab b | a T ; T = | S ;",
		"skip w [x ]\ntoken a y|zz\ngrammar\nS = a | ;",
	} {
		d, _, _, _ := defn.Read(s)
		x := tables(t, s)
		texts := []string{""}
		for i := 0; i < len(texts); i++ {
			checkParse(t, d, x, texts[i])
			if len(texts[i]) < 6 {
				texts = append(texts, texts[i]+"x", texts[i]+"y", texts[i]+"z", texts[i]+" ")
			}
		}
	}
}

// R2, R5: tables that are parsed by stay what they are, and the same comes again; trees are the caller's own.
func TestParseChangesNothing(t *testing.T) {
	x := tables(t, sums)
	was := fmt.Sprint(x)
	const s = "if (a + 1) + 2"
	n, _, _ := defn.Parse(x, s)
	want := fmt.Sprint(n)
	n.Kids[0].Kids[0] = api.Tree{Sym: 9}
	n.Kids[1] = api.Tree{}
	defn.Parse(x, "if (")
	again, at, e := defn.Parse(x, s)
	if fmt.Sprint(again) != want || at != 0 || e != api.OK || fmt.Sprint(x) != was {
		t.Errorf("got %v, %d, %d, want %s", again, at, e, want)
	}
}
