package defn_test

import (
	"math"
	"math/rand"
	"slices"
	"testing"

	"quincunx/api"
	"quincunx/defn"
)

// texts are parsed by whatever tables.
var texts = []string{"", "x", "xy", "x xx yy", "y z", "\x00\xff", "    ", "xyxyxyxyxy"}

// R1: by tables that Build did not make Parse ends, and tells no tree beside an error.
func TestParseOfOthers(t *testing.T) {
	right := tables(t, example)
	loop := [][]api.Move{{{Lo: 0, Hi: 255, To: 0}}}
	for _, lex := range []api.Lexer{
		{},
		right.Lex,
		{D: right.Lex.D},
		{Names: right.Lex.Names, Skip: right.Lex.Skip},
		{D: api.DFA{Accept: []int{0}}},
		{D: api.DFA{Moves: loop}},
		{D: api.DFA{Moves: loop, Accept: []int{0}}},
		{D: api.DFA{Moves: loop, Accept: []int{-2}}},
		{D: api.DFA{Moves: loop, Accept: []int{math.MaxInt}}},
		{D: api.DFA{Moves: loop, Accept: []int{math.MinInt}}},
		{D: api.DFA{Moves: [][]api.Move{{{Lo: 9, Hi: 1, To: 5}, {Lo: 0, Hi: 255, To: -5}}}, Accept: []int{1, 2, 3}}},
	} {
		for _, toks := range [][]int{nil, {}, right.Toks, {0}, {0, 0, 0}, {-1, -1, -1}, {9, 9}, {math.MaxInt, math.MinInt}, {1, 0, 1, 0}} {
			for _, c := range []api.Cfg{{}, right.Cfg, {Tokens: right.Cfg.Tokens}, {Names: right.Cfg.Names, Alts: right.Cfg.Alts}, {Tokens: []string{"a"}, Names: []string{"S"}, Alts: [][][]int{{{-1, -1}, {-9}}}}} {
				for _, l := range [][][]int{nil, right.Table, {nil}, {{0, 0, 0}}, {{9, -9}}} {
					for _, s := range texts {
						parseWrong(t, api.Tables{Lex: lex, Cfg: c, Table: l, Toks: toks}, s)
					}
				}
			}
		}
	}
}

// parseWrong parses by tables of which nothing is said.
func parseWrong(t *testing.T, x api.Tables, s string) {
	t.Helper()
	if n, at, e := defn.Parse(x, s); e != api.OK && !isNothing(n) || at < 0 || at > len(s) {
		t.Fatalf("%v: %q: got %v, %d, %d", x, s, n, at, e)
	}
}

// R1: the same with pieces of tables of many definitions.
func TestParseOfMixedTables(t *testing.T) {
	r := rand.New(rand.NewSource(6))
	var l []api.Tables
	for len(l) < 60 {
		if x, _, _, e := defn.Build(anyDefn(r)); e == api.OK {
			l = append(l, x)
		}
	}
	some := func() api.Tables { return l[r.Intn(len(l))] }
	for range 20000 {
		x := api.Tables{Lex: some().Lex, Cfg: some().Cfg, Table: some().Table, Toks: slices.Clone(some().Toks)}
		if len(x.Toks) > 0 {
			x.Toks[r.Intn(len(x.Toks))] = r.Intn(9) - 4
		}
		parseWrong(t, x, texts[r.Intn(len(texts))])
	}
}

// R1: definitions of random bytes and lists: all calls end.
func TestOfRandomDefinitions(t *testing.T) {
	r := rand.New(rand.NewSource(7))
	words := []string{"", "a", "S", "1", "x*", "(", "\n", " ", "token", "\xff", "[^\x00-\xff]"}
	word := func() string { return words[r.Intn(len(words))] }
	for range 5000 {
		var d api.Defn
		for range r.Intn(4) {
			d.Rules = append(d.Rules, api.LexRule{Name: word(), Re: word(), Skip: r.Intn(2) == 0})
		}
		for range r.Intn(4) {
			rule := api.Rule{Name: word()}
			for range r.Intn(3) {
				rule.Alts = append(rule.Alts, []string{word(), word()}[:r.Intn(3)])
			}
			d.G.Rules = append(d.G.Rules, rule)
		}
		s, e := defn.Text(d)
		if x, part, at, built := defn.Build(d); built != api.OK && len(x.Toks)+len(x.Table)+len(x.Lex.Names)+len(x.Cfg.Names) > 0 || part < 0 || at < 0 || built == api.OK && e != api.OK {
			t.Fatalf("%+v: got %v, %d, %d, %d", d, x, part, at, built)
		}
		if e != api.OK && s != "" {
			t.Fatalf("%+v: got %q, %d", d, s, e)
		}
	}
}
