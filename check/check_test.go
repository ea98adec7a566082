package check_test

import (
	"fmt"
	"math"
	"math/rand"
	"slices"
	"strings"
	"testing"

	"quincunx/api"
	"quincunx/check"
	"quincunx/grammar"
)

// same tells whether two grammars by numbers are the same: lists without elements are, nil or empty (R3).
func same(a, b api.Cfg) bool {
	return slices.Equal(a.Tokens, b.Tokens) && slices.Equal(a.Names, b.Names) &&
		slices.EqualFunc(a.Alts, b.Alts, func(x, y [][]int) bool { return slices.EqualFunc(x, y, slices.Equal) })
}

// isZero tells whether a grammar by numbers is the zero one, as beside an error.
func isZero(c api.Cfg) bool { return len(c.Tokens) == 0 && len(c.Names) == 0 && len(c.Alts) == 0 }

// times is a text, so many times.
func times(n int, s string) []string { return slices.Repeat([]string{s}, n) }

// numbered are so many names, of a letter and a number.
func numbered(letter string, n int) []string {
	var l []string
	for i := range n {
		l = append(l, fmt.Sprint(letter, i))
	}
	return l
}

// P8.2: grammars by numbers, number by number.
func TestNumber(t *testing.T) {
	for _, x := range []struct {
		s, tokens string
		want      api.Cfg
	}{
		{"S = a S b | ;", "a b", api.Cfg{Tokens: []string{"a", "b"}, Names: []string{"S"}, Alts: [][][]int{{{0, -1, 1}, {}}}}},
		{"S = a S b | ;", "b a", api.Cfg{Tokens: []string{"b", "a"}, Names: []string{"S"}, Alts: [][][]int{{{1, -1, 0}, {}}}}},
		{"S = a S b | ;", "x a y b z", api.Cfg{Tokens: []string{"x", "a", "y", "b", "z"}, Names: []string{"S"}, Alts: [][][]int{{{1, -1, 3}, {}}}}},
		{"S = ;", "", api.Cfg{Names: []string{"S"}, Alts: [][][]int{{{}}}}},
		{"S = | | ;", "", api.Cfg{Names: []string{"S"}, Alts: [][][]int{{{}, {}, {}}}}},
		{"S = A | B b ; A = c B ; B = S A | b | ;", "a b c", api.Cfg{
			Tokens: []string{"a", "b", "c"}, Names: []string{"S", "A", "B"}, Alts: [][][]int{{{-2}, {-3, 1}}, {{2, -3}}, {{-1, -2}, {1}, {}}}}},
		{"S = S a a | a | S a a ;", "a", api.Cfg{Tokens: []string{"a"}, Names: []string{"S"}, Alts: [][][]int{{{-1, 0, 0}, {0}, {-1, 0, 0}}}}},
		{"_ = x1 ;", "X1 x1", api.Cfg{Tokens: []string{"X1", "x1"}, Names: []string{"_"}, Alts: [][][]int{{{1}}}}},
	} {
		got, e := check.Number(read(t, x.s), strings.Fields(x.tokens))
		if !same(got, x.want) || e != api.OK {
			t.Errorf("%q: got %v, %d, want %v", x.s, got, e, x.want)
		}
	}
}

// P8.2: what is refused, and for what first.
func TestNumberRefuses(t *testing.T) {
	long := rule("S", strings.Repeat("a ", api.MaxLong+1))
	tooMany := numbered("t", api.MaxRules+1)
	good := of(rule("S", "a S", ""))
	for _, x := range []struct {
		name   string
		g      api.Grammar
		tokens []string
		want   api.Errno
	}{
		{"no rule", of(), []string{"a"}, api.ErrArg},
		{"a rule without alternatives", of(rule("S", "a"), rule("T")), []string{"a"}, api.ErrArg},
		{"a rule's name that is none", of(rule("1", "a")), []string{"a"}, api.ErrArg},
		{"a name in an alternative that is none", of(rule("S", "a", "+")), []string{"a", "+"}, api.ErrArg},
		{"too long an alternative", of(long), []string{"a"}, api.ErrLong},
		{"too many rules", of(slices.Repeat([]api.Rule{rule("S", "a")}, api.MaxRules+1)...), []string{"a"}, api.ErrLong},
		{"too many alternatives", of(rule("S", times(api.MaxAlts+1, "a")...)), []string{"a"}, api.ErrLong},
		{"an empty token", good, []string{"a", ""}, api.ErrArg},
		{"a token with a digit first", good, []string{"a", "1"}, api.ErrArg},
		{"a token with a blank", good, []string{"a b", "a"}, api.ErrArg},
		{"a token of 33 bytes", good, []string{"a", strings.Repeat("n", 33)}, api.ErrArg},
		{"a token of 32 bytes", good, []string{"a", strings.Repeat("n", 32)}, api.OK},
		{"a token twice", good, []string{"a", "b", "a"}, api.ErrArg},
		{"a token that stands nowhere twice", good, []string{"a", "b", "b"}, api.ErrArg},
		{"tokens in great and small letters", good, []string{"a", "A"}, api.OK},
		{"the most tokens", good, append([]string{"a"}, numbered("t", api.MaxRules-1)...), api.OK},
		{"one token too many", good, append([]string{"a"}, numbered("t", api.MaxRules)...), api.ErrLong},
		{"far too many tokens", good, append([]string{"a"}, numbered("t", 1<<16)...), api.ErrLong},
		{"Double: a rule twice", of(rule("S", "a"), rule("S", "a")), []string{"a"}, api.ErrGrammar},
		{"Double: a token's name", of(rule("S", "a"), rule("a", "")), []string{"a"}, api.ErrGrammar},
		{"Unknown", of(rule("S", "a", "b")), []string{"a"}, api.ErrGrammar},
		{"Unknown, without tokens", of(rule("S", "a", "")), nil, api.ErrGrammar},
		{"Barren", of(rule("S", "a", "T"), rule("T", "a T")), []string{"a"}, api.ErrGrammar},
		{"Idle", of(rule("S", "a"), rule("T", "a")), []string{"a"}, api.ErrGrammar},
		// what comes first
		{"a grammar that may not be, and wrong tokens", of(), tooMany, api.ErrArg},
		{"a grammar that may not be, and flaws", of(rule("S", "S"), rule("S")), nil, api.ErrArg},
		{"a grammar too long, and a token twice", of(long), []string{"a", "a"}, api.ErrLong},
		{"a grammar too long, and a token that is none", of(long), []string{"1"}, api.ErrLong},
		{"too many tokens, the last one twice", good, append(tooMany, tooMany[0]), api.ErrArg},
		{"too many tokens, the last one none", good, append(tooMany, "-"), api.ErrArg},
		{"too many tokens, and flaws", of(rule("S", "S")), tooMany, api.ErrLong},
		{"a token twice, and flaws", of(rule("S", "S")), []string{"a", "a"}, api.ErrArg},
		{"a token that is none, and flaws", of(rule("S", "1x")), []string{"1x"}, api.ErrArg},
		{"a token that is none, and an unknown name", of(rule("S", "x")), []string{"-"}, api.ErrArg},
	} {
		got, e := check.Number(x.g, x.tokens)
		if e != x.want || isZero(got) != (x.want != api.OK) {
			t.Errorf("%s: got %v, %d, want %d", x.name, got, e, x.want)
		}
	}
}

// greatest is a grammar without flaws that has as many rules, alternatives, names and tokens as there may be.
func greatest() (api.Grammar, []string) {
	names, tokens := numbered("R", api.MaxRules), numbered("t", api.MaxRules)
	var g api.Grammar
	for i, name := range names {
		first := strings.Repeat(tokens[i]+" ", api.MaxLong)
		others := times(api.MaxAlts-1, strings.Repeat(names[(i+1)%api.MaxRules]+" "+tokens[59-i]+" ", api.MaxLong/2))
		g.Rules = append(g.Rules, rule(name, append([]string{first}, others...)...))
	}
	return g, tokens
}

// P8.2, P8.3: the greatest grammar there is.
func TestGreatest(t *testing.T) {
	g, tokens := greatest()
	c, e := check.Number(g, tokens)
	if e != api.OK || len(c.Names) != 60 || len(c.Tokens) != 60 || len(c.Alts) != 60 {
		t.Fatalf("got %d", e)
	}
	for r, alts := range c.Alts {
		for i, alt := range alts {
			want := slices.Repeat([]int{r}, 30)
			if i > 0 {
				want = slices.Repeat([]int{-1 - (r+1)%60, 59 - r}, 15)
			}
			if len(alts) != 30 || !slices.Equal(alt, want) {
				t.Fatalf("%d, %d: got %v", r, i, alt)
			}
		}
	}
	if back, e := check.Back(c); e != api.OK || !grammar.Same(back, g) {
		t.Errorf("it does not come back: %d", e)
	}
	if e := check.Valid(c); e != api.OK {
		t.Errorf("got %d", e)
	}
	for name, wrong := range map[string]func(*api.Cfg){
		"a token more":        func(c *api.Cfg) { c.Tokens = append(c.Tokens, "more") },
		"a name more":         func(c *api.Cfg) { c.Alts[59][29] = append(c.Alts[59][29], 0) },
		"an alternative more": func(c *api.Cfg) { c.Alts[59] = append(c.Alts[59], []int{0}) },
		"a rule more": func(c *api.Cfg) {
			c.Names, c.Alts = append(c.Names, "more"), append(c.Alts, [][]int{{0}})
			c.Alts[0][29][0] = -61
		},
	} {
		more, _ := check.Number(g, tokens)
		wrong(&more)
		if _, e := check.Back(more); e != api.OK {
			t.Errorf("%s: Back answers %d", name, e)
		}
		if e := check.Valid(more); e != api.ErrGrammar {
			t.Errorf("%s: got %d", name, e)
		}
	}
}

// cfg makes a grammar by numbers; its tokens and names have blanks between.
func cfg(tokens, names string, alts ...[][]int) api.Cfg {
	return api.Cfg{Tokens: strings.Fields(tokens), Names: strings.Fields(names), Alts: alts}
}

// P8.3: Back of numbers of all kinds, and which of these grammars may be.
func TestBackAndValid(t *testing.T) {
	for _, x := range []struct {
		name  string
		c     api.Cfg
		back  api.Grammar
		want  api.Errno
		valid api.Errno
	}{
		{"one rule", cfg("a b", "S", [][]int{{0, -1, 1}, {}}), of(rule("S", "a S b", "")), api.OK, api.OK},
		{"no token", cfg("", "S", [][]int{nil}), of(rule("S", "")), api.OK, api.OK},
		{"three rules", cfg("a b", "S A B", [][]int{{-2, -3}}, [][]int{{1}, {-1}}, [][]int{{0}}), of(rule("S", "A B"), rule("A", "b", "S"), rule("B", "a")), api.OK, api.OK},
		{"tokens that stand nowhere", cfg("a b c", "S", [][]int{{1}}), of(rule("S", "b")), api.OK, api.OK},
		// Back has one, that Number does not take
		{"nothing", api.Cfg{}, of(), api.OK, api.ErrGrammar},
		{"tokens alone", cfg("a b", ""), of(), api.OK, api.ErrGrammar},
		{"no alternative", cfg("a", "S", [][]int{}), of(rule("S")), api.OK, api.ErrGrammar},
		{"a rule's name that is none", api.Cfg{Names: []string{"S T"}, Alts: [][][]int{{{}}}}, of(api.Rule{Name: "S T", Alts: [][]string{{}}}), api.OK, api.ErrGrammar},
		{"an empty name", api.Cfg{Names: []string{""}, Alts: [][][]int{{{}}}}, of(api.Rule{Alts: [][]string{{}}}), api.OK, api.ErrGrammar},
		{"a token that is none", cfg("a 1", "S", [][]int{{0}}), of(rule("S", "a")), api.OK, api.ErrGrammar},
		{"a token that is none, in an alternative", cfg("a 1", "S", [][]int{{1}}), of(rule("S", "1")), api.OK, api.ErrGrammar},
		{"a token twice", cfg("a a", "S", [][]int{{0}}), of(rule("S", "a")), api.OK, api.ErrGrammar},
		{"a token twice, the second one used", cfg("a a", "S", [][]int{{1}}), of(rule("S", "a")), api.OK, api.ErrGrammar},
		{"Double: a rule twice", cfg("a", "S S", [][]int{{0}}, [][]int{{0}}), of(rule("S", "a"), rule("S", "a")), api.OK, api.ErrGrammar},
		{"Double: the second one used", cfg("a", "S T T", [][]int{{-3}}, [][]int{{0}}, [][]int{{0}}), of(rule("S", "T"), rule("T", "a"), rule("T", "a")), api.OK, api.ErrGrammar},
		{"Double: a token's name", cfg("a S", "S", [][]int{{0}}), of(rule("S", "a")), api.OK, api.ErrGrammar},
		{"Double: a token's name used", cfg("a S", "S", [][]int{{1}}), of(rule("S", "S")), api.OK, api.ErrGrammar},
		{"Barren", cfg("a", "S", [][]int{{0, -1}}), of(rule("S", "a S")), api.OK, api.ErrGrammar},
		{"Idle", cfg("a", "S T", [][]int{{0}}, [][]int{{-1}}), of(rule("S", "a"), rule("T", "S")), api.OK, api.ErrGrammar},
		// Back has none
		{"more names than alternatives", cfg("a", "S T", [][]int{{0}}), of(), api.ErrArg, api.ErrGrammar},
		{"more alternatives than names", cfg("a", "S", [][]int{{0}}, [][]int{{0}}), of(), api.ErrArg, api.ErrGrammar},
		{"alternatives without names", cfg("a", "", [][]int{{0}}), of(), api.ErrArg, api.ErrGrammar},
		{"names without alternatives", cfg("a", "S"), of(), api.ErrArg, api.ErrGrammar},
		{"the number behind the last token's", cfg("a b", "S", [][]int{{0, 2}, {}}), of(), api.ErrArg, api.ErrGrammar},
		{"the number behind the last rule's", cfg("a b", "S", [][]int{{0, -2}, {}}), of(), api.ErrArg, api.ErrGrammar},
		{"a token's number, of no token", cfg("", "S", [][]int{{0}, {}}), of(), api.ErrArg, api.ErrGrammar},
		{"in the last rule", cfg("a", "S T", [][]int{{-2}}, [][]int{{}, {-1, 0, -3}}), of(), api.ErrArg, api.ErrGrammar},
		{"the greatest number", cfg("a", "S", [][]int{{math.MaxInt}}), of(), api.ErrArg, api.ErrGrammar},
		{"the least number", cfg("a", "S", [][]int{{math.MinInt}}), of(), api.ErrArg, api.ErrGrammar},
		{"the least number but one", cfg("a", "S", [][]int{{math.MinInt + 1}}), of(), api.ErrArg, api.ErrGrammar},
	} {
		if got, e := check.Back(x.c); !grammar.Same(got, x.back) || e != x.want {
			t.Errorf("%s: got %v, %d, want %v, %d", x.name, got, e, x.back, x.want)
		}
		if e := check.Valid(x.c); e != x.valid {
			t.Errorf("%s: Valid is %d, want %d", x.name, e, x.valid)
		}
	}
}

// anyCfg is a grammar by numbers, most of them of tokens or rules that there are.
func anyCfg(r *rand.Rand) api.Cfg {
	g, tokens := anyGrammar(r, 3)
	var c api.Cfg
	c.Tokens = tokens
	for _, rule := range g.Rules {
		var alts [][]int
		for _, alt := range rule.Alts {
			var l []int
			for range alt {
				l = append(l, r.Intn(len(tokens)+len(g.Rules))-len(g.Rules))
			}
			alts = append(alts, l)
		}
		c.Names, c.Alts = append(c.Names, rule.Name), append(c.Alts, alts)
	}
	switch r.Intn(20) {
	case 0:
		c.Alts[0] = append(c.Alts[0], []int{r.Intn(8) - 8})
	case 1:
		c.Names = c.Names[1:]
	case 2:
		c.Tokens = append(slices.Clone(tokens), []string{"a", "S", "9", "x"}[r.Intn(4)])
	}
	return c
}

// P8.3: many grammars by numbers, against the chapter's words.
func TestValidByWords(t *testing.T) {
	r := rand.New(rand.NewSource(3))
	count := map[api.Errno]int{}
	for range 20000 {
		c := anyCfg(r)
		want := api.ErrGrammar
		if g, e := check.Back(c); e == api.OK {
			if again, e := check.Number(g, c.Tokens); e == api.OK && same(again, c) {
				want = api.OK
			}
		}
		if e := check.Valid(c); e != want {
			t.Fatalf("%v: got %d, want %d", c, e, want)
		}
		count[want]++
	}
	if count[api.OK] < 2000 || count[api.ErrGrammar] < 2000 {
		t.Errorf("%v", count)
	}
}

// P8.4: Back of Number is the grammar, and that may be.
func TestBackOfNumber(t *testing.T) {
	r := rand.New(rand.NewSource(4))
	count := 0
	for range 20000 {
		g, tokens := anyGrammar(r, 3)
		c, e := check.Number(g, tokens)
		if want := len(check.Flaws(g, tokens)) == 0; want != (e == api.OK) || e != api.OK && (e != api.ErrGrammar || !isZero(c)) {
			t.Fatalf("%v, %v: got %v, %d", g, tokens, c, e)
		}
		if e != api.OK {
			continue
		}
		count++
		back, e := check.Back(c)
		if !grammar.Same(back, g) || e != api.OK || check.Valid(c) != api.OK || !slices.Equal(c.Tokens, tokens) {
			t.Fatalf("%v, %v: got %v, %d, of %v", g, tokens, back, e, c)
		}
	}
	if count < 1000 {
		t.Errorf("%d have no flaws", count)
	}
}

// ends tells whether a sentence comes from a rule by a derivation that is so deep at the most.
func ends(c api.Cfg, rule, deep int) bool {
	return deep > 0 && slices.ContainsFunc(c.Alts[rule], func(alt []int) bool { return allEnd(c, alt, deep-1) })
}

func allEnd(c api.Cfg, alt []int, deep int) bool {
	return !slices.ContainsFunc(alt, func(n int) bool { return n < 0 && !ends(c, -1-n, deep) })
}

// uses tells whether another rule is in the derivation of a sentence of a rule, so deep at the most.
func uses(c api.Cfg, rule, other, deep int) bool {
	if deep == 0 || rule == other {
		return rule == other && ends(c, rule, len(c.Names))
	}
	return slices.ContainsFunc(c.Alts[rule], func(alt []int) bool {
		return allEnd(c, alt, len(c.Names)) && slices.ContainsFunc(alt, func(n int) bool { return n < 0 && uses(c, -1-n, other, deep-1) })
	})
}

// P8.4: a grammar without flaws has from each rule a sentence, and each rule in some sentence's derivation; one that has only barren and idle rules wrong has not.
// (A shallowest derivation has no rule twice on a way down: it is as deep as there are rules at the most.)
func TestSentencesOfRules(t *testing.T) {
	r := rand.New(rand.NewSource(5))
	count := map[bool]int{}
	for range 10000 {
		g, tokens := anyGrammar(r, 2)
		flaws := check.Flaws(g, tokens)
		if slices.ContainsFunc(flaws, func(x api.Flaw) bool { return x.Kind == api.Double || x.Kind == api.Unknown }) {
			continue
		}
		c := byNames(g, tokens)
		all := true
		for rule := range c.Names {
			all = all && ends(c, rule, len(c.Names)) && uses(c, 0, rule, len(c.Names))
		}
		if all != (len(flaws) == 0) {
			t.Fatalf("%v, %v: got %q", g, tokens, told(flaws))
		}
		count[all]++
	}
	if count[true] < 500 || count[false] < 500 {
		t.Errorf("%v", count)
	}
}

// byNames turns names into numbers, whatever flaws there are but those of names.
func byNames(g api.Grammar, tokens []string) api.Cfg {
	c := api.Cfg{Tokens: tokens}
	for _, rule := range g.Rules {
		c.Names = append(c.Names, rule.Name)
	}
	for _, rule := range g.Rules {
		var alts [][]int
		for _, alt := range rule.Alts {
			var l []int
			for _, name := range alt {
				if i := slices.Index(tokens, name); i >= 0 {
					l = append(l, i)
				} else {
					l = append(l, -1-slices.Index(c.Names, name))
				}
			}
			alts = append(alts, l)
		}
		c.Alts = append(c.Alts, alts)
	}
	return c
}

// P8.2, R1: of grammars and lists that are far too great the calls end.
func TestOfGreatGrammars(t *testing.T) {
	const n = 1 << 18
	tokens := numbered("t", n)
	if c, e := check.Number(of(rule("S", "")), tokens); e != api.ErrLong || !isZero(c) {
		t.Errorf("got %d", e)
	}
	if c, e := check.Number(chain(n, true), tokens); e != api.ErrLong || !isZero(c) {
		t.Errorf("got %d", e)
	}
	c := api.Cfg{Tokens: tokens}
	for i := range n {
		c.Names, c.Alts = append(c.Names, fmt.Sprint("r", i)), append(c.Alts, [][]int{{i}, {-1 - i}})
	}
	if g, e := check.Back(c); e != api.OK || len(g.Rules) != n || g.Rules[n-1].Alts[1][0] != c.Names[n-1] {
		t.Errorf("got %d rules, %d", len(g.Rules), e)
	}
	if e := check.Valid(c); e != api.ErrGrammar {
		t.Errorf("got %d", e)
	}
}

// R2, R5: what was handed in stays what it is, and the same comes again.
func TestCallsChangeNothing(t *testing.T) {
	r := rand.New(rand.NewSource(6))
	for range 1000 {
		g, tokens := anyGrammar(r, 3)
		c := anyCfg(r)
		was := fmt.Sprint(g, tokens, c)
		one, e := check.Number(g, tokens)
		back, err := check.Back(c)
		valid := check.Valid(c)
		if again, other := check.Number(g, tokens); !same(again, one) || other != e {
			t.Fatalf("%s: got %v, then %v", was, one, again)
		}
		if again, other := check.Back(c); !grammar.Same(again, back) || other != err || check.Valid(c) != valid {
			t.Fatalf("%s: got %v, then %v", was, back, again)
		}
		if fmt.Sprint(g, tokens, c) != was {
			t.Fatalf("%s: now %v, %v, %v", was, g, tokens, c)
		}
	}
}

// R2: a grammar by numbers shares nothing with what it was made of, and no two of its lists share.
func TestNumberSharesNothing(t *testing.T) {
	alts := [][]string{{"a", "T"}, {"a", "S"}, nil}
	g := of(api.Rule{Name: "S", Alts: alts}, api.Rule{Name: "T", Alts: alts})
	tokens := []string{"a", "b"}
	c, _ := check.Number(g, tokens)
	want := cfg("a b", "S T", [][]int{{0, -2}, {0, -1}, {}}, [][]int{{0, -2}, {0, -1}, {}})
	tokens[0], g.Rules[0].Name, alts[0][0], alts[1] = "x", "x", "x", nil
	if !same(c, want) {
		t.Errorf("got %v", c)
	}
	for _, alts := range c.Alts {
		_ = append(alts, []int{7}, []int{7})
		for _, alt := range alts {
			_ = append(alt, 7, 7, 7)
		}
	}
	c.Tokens[0], c.Names[0], c.Alts[0][0][0], c.Alts[0][1] = "z", "z", 8, nil
	if !same(c, cfg("z b", "z T", [][]int{{8, -2}, {}, {}}, want.Alts[1])) || tokens[0] != "x" || g.Rules[0].Name != "x" {
		t.Errorf("lists share: %v, %v, %v", c, g, tokens)
	}
}

// R2: a grammar that comes back shares nothing with the numbers, and no two of its lists share.
func TestBackSharesNothing(t *testing.T) {
	alts := [][]int{{0, -1}, {0}, nil}
	c := cfg("a b", "S T", alts, alts)
	g, _ := check.Back(c)
	c.Tokens[0], c.Names[0], alts[0][0], alts[1] = "x", "x", 1, nil
	if want := of(rule("S", "a S", "a", ""), rule("T", "a S", "a", "")); !grammar.Same(g, want) {
		t.Errorf("got %v", g)
	}
	for _, rule := range g.Rules {
		_ = append(rule.Alts, []string{"y"}, []string{"y"})
		for _, alt := range rule.Alts {
			_ = append(alt, "y", "y", "y")
		}
	}
	g.Rules[0].Alts[0][0], g.Rules[0].Alts[1] = "z", nil
	if want := of(rule("S", "z S", "", ""), rule("T", "a S", "a", "")); !grammar.Same(g, want) || !slices.Equal(c.Names, []string{"x", "T"}) {
		t.Errorf("lists share: %v, %v", g, c)
	}
}
