package grammar_test

import (
	"math/rand"
	"slices"
	"strings"
	"testing"

	"quincunx/api"
	"quincunx/grammar"
)

// rule makes a rule of its name and its alternatives' names, with blanks between.
func rule(name string, alts ...string) api.Rule {
	r := api.Rule{Name: name}
	for _, s := range alts {
		r.Alts = append(r.Alts, strings.Fields(s))
	}
	return r
}

func of(l ...api.Rule) api.Grammar { return api.Grammar{Rules: l} }

// times is a text, so many times.
func times(n int, s string) []string { return slices.Repeat([]string{s}, n) }

// manyRules are so many rules.
func manyRules(n int) api.Grammar { return of(slices.Repeat([]api.Rule{rule("S", "a")}, n)...) }

// long is a name of so many bytes.
func long(n int) string { return strings.Repeat("n", n) }

// most is as long as a grammar may be: of rules, alternatives and names as many as there may be.
func most() api.Grammar {
	alts := times(api.MaxAlts, strings.Repeat(long(32)+" ", api.MaxLong))
	return of(slices.Repeat([]api.Rule{rule(long(32), alts...)}, api.MaxRules)...)
}

// P7.1: grammars that may be, and others.
func TestCheck(t *testing.T) {
	longAlt := strings.Repeat("a ", api.MaxLong+1)
	last := most()
	last.Rules[59] = rule("S", append(times(29, "a"), "a b é")...)
	for _, x := range []struct {
		name string
		g    api.Grammar
		want api.Errno
	}{
		{"no rule", of(), api.ErrArg},
		{"an empty list of rules", api.Grammar{Rules: []api.Rule{}}, api.ErrArg},
		{"one rule", of(rule("S", "a")), api.OK},
		{"an empty alternative", of(rule("S", "")), api.OK},
		{"several of them", of(rule("S", "", "")), api.OK},
		{"no alternative", of(rule("S")), api.ErrArg},
		{"an empty list of alternatives", of(api.Rule{Name: "S", Alts: [][]string{}}), api.ErrArg},
		{"no alternative, farther in", of(rule("S", "a"), rule("T"), rule("U", "b")), api.ErrArg},
		{"two rules of one name", of(rule("S", "a"), rule("S", "a")), api.OK}, // a flaw, which layer 8 tells
		{"a name that no rule has", of(rule("S", "T")), api.OK},
		{"a name that leads to itself", of(rule("S", "S")), api.OK},
		{"the longest names", of(rule(long(32), long(32))), api.OK},
		{"a rule's name too long", of(rule(long(33), "a")), api.ErrArg},
		{"a name too long", of(rule("S", "a "+long(33))), api.ErrArg},
		{"a rule without a name", of(rule("", "a")), api.ErrArg},
		{"an empty name", of(api.Rule{Name: "S", Alts: [][]string{{"a", ""}}}), api.ErrArg},
		{"a blank in a name", of(api.Rule{Name: "S", Alts: [][]string{{"a b"}}}), api.ErrArg},
		{"a blank in a rule's name", of(rule("S T", "a")), api.ErrArg},
		{"a digit first", of(rule("1", "a")), api.ErrArg},
		{"a digit first, in an alternative", of(rule("S", "", "a 1b")), api.ErrArg},
		{"a sign", of(rule("S", "a", "b |")), api.ErrArg},
		{"the last name of all", last, api.ErrArg},
		{"the most rules", manyRules(api.MaxRules), api.OK},
		{"one rule too many", manyRules(api.MaxRules + 1), api.ErrLong},
		{"far too many rules", manyRules(10 * api.MaxRules), api.ErrLong},
		{"the most alternatives", of(rule("S", times(api.MaxAlts, "a")...)), api.OK},
		{"the most empty alternatives", of(rule("S", times(api.MaxAlts, "")...)), api.OK},
		{"one alternative too many", of(rule("S", times(api.MaxAlts+1, "a")...)), api.ErrLong},
		{"one empty alternative too many", of(rule("S", times(api.MaxAlts+1, "")...)), api.ErrLong},
		{"one alternative too many, farther in", of(rule("S", "a"), rule("T", times(api.MaxAlts+1, "a")...)), api.ErrLong},
		{"the most names", of(rule("S", strings.Repeat("a ", api.MaxLong))), api.OK},
		{"one name too many", of(rule("S", longAlt)), api.ErrLong},
		{"one name too many, farther in", of(rule("S", "a"), rule("T", "a", longAlt, "")), api.ErrLong},
		{"the most of all", most(), api.OK},
		{"too long, and then a wrong name", of(rule("S", longAlt, "1")), api.ErrArg},
		{"too many rules, the last one without alternatives", of(append(manyRules(60).Rules, rule("S"))...), api.ErrArg},
		{"too many alternatives, and a wrong name", of(rule("S", append(times(30, "a"), "1")...)), api.ErrArg},
		{"too many names, the last one wrong", of(rule("S", strings.Repeat("a ", 30)+"1")), api.ErrArg},
	} {
		if got := grammar.Check(x.g); got != x.want {
			t.Errorf("%s: got %d, want %d", x.name, got, x.want)
		}
		if got, e := grammar.Text(x.g); e != x.want || (got == "") != (x.want != api.OK) {
			t.Errorf("%s: the text is %q, %d, want %d", x.name, got, e, x.want)
		}
	}
}

// P7.1: which are the same. Two are, if the texts that tell all of them are.
func TestSame(t *testing.T) {
	l := []api.Grammar{
		of(),
		of(rule("S", "a")),
		of(rule("S", "b")),
		of(rule("T", "a")),
		of(rule("S")),
		of(rule("")),
		of(rule("S", "")),
		of(rule("S", "", "")),
		of(rule("S", "a", "b")),
		of(rule("S", "b", "a")),
		of(rule("S", "a b")),
		of(rule("S", "b a")),
		of(rule("S", "a b c")),
		of(rule("S", "a", "")),
		of(rule("S", "", "a")),
		of(rule("S", "a"), rule("T", "b")),
		of(rule("T", "b"), rule("S", "a")),
		of(rule("S", "a"), rule("S", "a")),
		of(rule("S", "a"), rule("T", "b"), rule("U", "c")),
		of(rule("S", "a"), rule("T", "b"), rule("U", "d")),
		of(rule("S", "a b", "c")),
		of(rule("S", "a", "b c")),
		of(api.Rule{Name: "S", Alts: [][]string{{""}}}),
		of(api.Rule{Name: "S", Alts: [][]string{{"a b"}}}),
		of(rule("é", "1 =")),
		manyRules(100),
		manyRules(101),
	}
	for i, a := range l {
		for j, b := range l {
			if got := grammar.Same(a, b); got != (i == j) {
				t.Errorf("%d, %d: got %v", i, j, got)
			}
		}
		if !grammar.Same(a, copied(a)) || !grammar.Same(copied(a), a) {
			t.Errorf("%d: it is not what it is", i)
		}
	}
}

// copied is the same grammar in other lists.
func copied(g api.Grammar) api.Grammar {
	out := api.Grammar{Rules: slices.Clone(g.Rules)}
	for i, r := range out.Rules {
		out.Rules[i].Alts = slices.Clone(r.Alts)
		for j, alt := range r.Alts {
			out.Rules[i].Alts[j] = slices.Clone(alt)
		}
	}
	return out
}

// P7.1, R3: lists without elements are the same, nil or empty.
func TestSameOfEmptyLists(t *testing.T) {
	for _, x := range [][2]api.Grammar{
		{of(), {Rules: []api.Rule{}}},
		{of(rule("S")), of(api.Rule{Name: "S", Alts: [][]string{}})},
		{of(api.Rule{Name: "S", Alts: [][]string{nil}}), of(api.Rule{Name: "S", Alts: [][]string{{}}})},
	} {
		if !grammar.Same(x[0], x[1]) || !grammar.Same(x[1], x[0]) {
			t.Errorf("%v, %v", x[0], x[1])
		}
	}
}

// P7.3: grammars' texts, byte by byte.
func TestText(t *testing.T) {
	for _, x := range []struct {
		g    api.Grammar
		want string
	}{
		{of(rule("S", "a S b", "")), "S = a S b | ;\n"},
		{of(rule("S", "a")), "S = a ;\n"},
		{of(rule("S", "")), "S = ;\n"},
		{of(rule("S", "", "")), "S = | ;\n"},
		{of(rule("S", "", "", "")), "S = | | ;\n"},
		{of(rule("S", "", "a")), "S = | a ;\n"},
		{of(rule("S", "a", "", "b c")), "S = a | | b c ;\n"},
		{of(rule("S", "T T"), rule("T", "a", "b")), "S = T T ;\nT = a | b ;\n"},
		{of(rule("T", "b"), rule("S", "a"), rule("T", "b")), "T = b ;\nS = a ;\nT = b ;\n"},
		{of(rule("_a9", "Some_Name _ __ x1")), "_a9 = Some_Name _ __ x1 ;\n"},
		{of(rule(long(32), long(32))), long(32) + " = " + long(32) + " ;\n"},
	} {
		if got, e := grammar.Text(x.g); got != x.want || e != api.OK {
			t.Errorf("got %q, %d, want %q", got, e, x.want)
		}
	}
}

// P7.3: the longest text there is.
func TestTextOfMost(t *testing.T) {
	alts := times(api.MaxAlts, strings.Repeat(" "+long(32), api.MaxLong))
	want := strings.Repeat(long(32)+" ="+strings.Join(alts, " |")+" ;\n", api.MaxRules)
	if got, e := grammar.Text(most()); got != want || e != api.OK {
		t.Errorf("got %d bytes, %d, want %d", len(got), e, len(want))
	}
}

// anyGrammar is a grammar of some rules and alternatives.
func anyGrammar(r *rand.Rand) api.Grammar {
	names := []string{"S", "T", "a", "b", "c1", "_", "If_Not", long(32)}
	var g api.Grammar
	for range 1 + r.Intn(5) {
		one := rule(names[r.Intn(len(names))])
		for range 1 + r.Intn(4) {
			var alt []string
			for range r.Intn(5) {
				alt = append(alt, names[r.Intn(len(names))])
			}
			one.Alts = append(one.Alts, alt)
		}
		g.Rules = append(g.Rules, one)
	}
	return g
}

// P7.4: Parse of Text is the grammar.
func TestParseOfText(t *testing.T) {
	r := rand.New(rand.NewSource(7))
	for range 2000 {
		g := anyGrammar(r)
		s, e := grammar.Text(g)
		if e != api.OK {
			t.Fatalf("%v: got %d", g, e)
		}
		if back, at, e := grammar.Parse(s); !grammar.Same(back, g) || at != 0 || e != api.OK {
			t.Fatalf("%q: got %v, %d, %d", s, back, at, e)
		}
	}
}

// P7.4: where the text is just short enough, and where it is not.
func TestParseOfLongText(t *testing.T) {
	for n, want := range map[int]api.Errno{api.MaxText - 1: api.OK, api.MaxText: api.OK, api.MaxText + 1: api.ErrLong} {
		l := slices.Repeat([]api.Rule{rule("S", long(32)+" "+long(32)+" "+long(24))}, 40) // of 97 bytes each
		g := of(append(l, rule("S", strings.Repeat(long(32)+" ", 6)+long(11+n-api.MaxText)))...)
		s, _ := grammar.Text(g)
		if len(s) != n {
			t.Fatalf("got %d bytes, want %d", len(s), n)
		}
		back, at, e := grammar.Parse(s)
		if grammar.Same(back, g) != (want == api.OK) || at != 0 || e != want {
			t.Errorf("%d: got %d rules, %d, %d", n, len(back.Rules), at, e)
		}
	}
}

// R1: of grammars that may not be the calls end, however great they are.
func TestOfGreatGrammars(t *testing.T) {
	alt := times(1000, "a")
	g := of(slices.Repeat([]api.Rule{{Name: "S", Alts: slices.Repeat([][]string{alt}, 1000)}}, 20)...)
	if e := grammar.Check(g); e != api.ErrLong {
		t.Errorf("got %d", e)
	}
	if s, e := grammar.Text(g); s != "" || e != api.ErrLong {
		t.Errorf("got %d bytes, %d", len(s), e)
	}
	if !grammar.Same(g, g) {
		t.Error("it is not what it is")
	}
	if e := grammar.Check(of(rule(long(1<<20), "a"))); e != api.ErrArg {
		t.Errorf("a name of many bytes: got %d", e)
	}
}

// R2, R5: grammars that were handed in stay what they are, and the same comes again.
func TestCallsChangeNothing(t *testing.T) {
	r := rand.New(rand.NewSource(8))
	for range 100 {
		g := anyGrammar(r)
		was := copied(g)
		s, _ := grammar.Text(g)
		grammar.Check(g)
		grammar.Same(g, was)
		again, e := grammar.Text(g)
		if s != again || e != api.OK || !grammar.Same(g, was) {
			t.Fatalf("%v: got %q, then %q", was, s, again)
		}
	}
}
