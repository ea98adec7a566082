package defn_test

import (
	"fmt"
	"math/rand"
	"slices"
	"strings"
	"testing"

	"quincunx/api"
	"quincunx/check"
	"quincunx/defn"
	"quincunx/grammar"
	"quincunx/lexer"
	"quincunx/table"
)

// told is what Build, or Compile, answers, in words: lists without elements are all one.
func told(t api.Tables, part, at int, e api.Errno) string {
	return fmt.Sprintf("%v, %d, %d, %d", t, part, at, e)
}

func built(d api.Defn) string { return told(defn.Build(d)) }

func compiled(s string) string { return told(defn.Compile(s)) }

// refused is what is told of an error.
func refused(part, at int, e api.Errno) string { return told(api.Tables{}, part, at, e) }

// P14.3: tables, part by part.
func TestBuild(t *testing.T) {
	for _, x := range []struct {
		d       api.Defn
		cfg     api.Cfg
		l, toks string
	}{
		{of(t, "S = a S b | ;", "a=x+", "b=y", "-w=[ ]+"), api.Cfg{Tokens: []string{"a", "b"}, Names: []string{"S"}, Alts: [][][]int{{{0, -1, 1}, {}}}}, "[[0 1 1]]", "[0 1 -1]"},
		{of(t, "S = a S b | ;", "-w=[ ]+", "b=y", "-v=z", "a=x+", "-u=#"), api.Cfg{Tokens: []string{"b", "a"}, Names: []string{"S"}, Alts: [][][]int{{{1, -1, 0}, {}}}}, "[[1 0 1]]", "[-1 0 -1 1 -1]"},
		{of(t, "S=;"), api.Cfg{Names: []string{"S"}, Alts: [][][]int{{{}}}}, "[[0]]", "[]"},
		{of(t, "S=;", "-w=x"), api.Cfg{Names: []string{"S"}, Alts: [][][]int{{{}}}}, "[[0]]", "[-1]"},
		{of(t, "S=;", "a=x"), api.Cfg{Tokens: []string{"a"}, Names: []string{"S"}, Alts: [][][]int{{{}}}}, "[[-1 0]]", "[0]"}, // no rule needs the token
		{of(t, "S = T c ; T = a T | ;", "c=z", "a=x"), api.Cfg{Tokens: []string{"c", "a"}, Names: []string{"S", "T"}, Alts: [][][]int{{{-2, 0}}, {{1, -2}, {}}}}, "[[0 0 -1] [1 0 -1]]", "[0 1]"},
		{of(t, "w = a ;", "-w=x", "a=y"), api.Cfg{Tokens: []string{"a"}, Names: []string{"w"}, Alts: [][][]int{{{0}}}}, "[[0 -1]]", "[-1 0]"}, // what is passed over is no token
	} {
		got, part, at, e := defn.Build(x.d)
		if part != 0 || at != 0 || e != api.OK {
			t.Errorf("%+v: got %d, %d, %d", x.d, part, at, e)
			continue
		}
		want, _, _ := lexer.Make(x.d.Rules)
		if fmt.Sprint(got.Lex) != fmt.Sprint(want) || len(got.Lex.Names) != len(x.d.Rules) {
			t.Errorf("%+v: got the lexer %v, want %v", x.d, got.Lex, want)
		}
		if fmt.Sprint(got.Cfg) != fmt.Sprint(x.cfg) || fmt.Sprint(got.Table) != x.l || fmt.Sprint(got.Toks) != x.toks {
			t.Errorf("%+v: got %v, %v, %v", x.d, got.Cfg, got.Table, got.Toks)
		}
	}
}

// P14.3: what is refused, in which part, and where there, or how many.
func TestBuildRefuses(t *testing.T) {
	states := "s=" + strings.Repeat("x", 2000)
	for i, x := range []struct {
		d        api.Defn
		part, at int
		want     api.Errno
	}{
		// The lexer's rules.
		{api.Defn{Rules: many(61), G: one("S", nil)}, api.InLexer, 0, api.ErrLong},
		{of(t, "S=;", "=x"), api.InLexer, 0, api.ErrArg},
		{of(t, "S=;", "a=x", "-b=y", "1=z"), api.InLexer, 2, api.ErrArg},
		{of(t, "S=;", "a=x", "b=y", "-a=z"), api.InLexer, 2, api.ErrArg},
		{of(t, "S=;", "a=x", "-b=(", "=z"), api.InLexer, 1, api.ErrRegex},
		{of(t, "S=;", "a=x", "b="+strings.Repeat("x", 4097)), api.InLexer, 1, api.ErrLong},
		{of(t, "S=;", "-a=x", "-b=x"+strings.Repeat("*", 40)), api.InLexer, 1, api.ErrDeep},
		{of(t, "S=;", "a=x", states), api.InLexer, 0, api.ErrStates},
		// A grammar that may not be, or is too long.
		{api.Defn{}, api.InGrammar, 0, api.ErrArg},
		{api.Defn{Rules: rules("a=x")}, api.InGrammar, 0, api.ErrArg},
		{api.Defn{G: one("S")}, api.InGrammar, 0, api.ErrArg},
		{api.Defn{G: one("", nil)}, api.InGrammar, 0, api.ErrArg},
		{api.Defn{Rules: rules("a=x"), G: one("S", nil, []string{"a", "a b"})}, api.InGrammar, 0, api.ErrArg},
		{api.Defn{Rules: rules("a=x"), G: one("S", times(1, 31)...)}, api.InGrammar, 0, api.ErrLong},
		{api.Defn{Rules: rules("a=x"), G: one("S", times(31, 1)...)}, api.InGrammar, 0, api.ErrLong},
		{api.Defn{G: api.Grammar{Rules: slices.Repeat(one("S", nil).Rules, 61)}}, api.InGrammar, 0, api.ErrLong},
		// Flaws.
		{of(t, "S = a ;"), api.InFlaws, 2, api.ErrGrammar},
		{of(t, "S = a S | A ;", "a=x"), api.InFlaws, 2, api.ErrGrammar},
		{of(t, "S = a ; B = b ;", "a=x"), api.InFlaws, 3, api.ErrGrammar},
		{of(t, "S = a | w ;", "a=x", "-w=y"), api.InFlaws, 1, api.ErrGrammar}, // what is passed over is no token
		{of(t, "S = a ; a = ;", "a=x"), api.InFlaws, 1, api.ErrGrammar},
		{of(t, "S = S ;"), api.InFlaws, 1, api.ErrGrammar},
		{of(t, "S = ; S = ;"), api.InFlaws, 1, api.ErrGrammar},
		{of(t, "S = b c d b ; S = ; T = T ; U = ;", "a=x"), api.InFlaws, 7, api.ErrGrammar},
		// Clashes.
		{of(t, "S = a | a b ;", "a=x", "b=y"), api.InClash, 1, api.ErrClash},
		{of(t, "S = a | a | a ;", "a=x"), api.InClash, 3, api.ErrClash},
		{of(t, "S = | ;"), api.InClash, 1, api.ErrClash},
		{of(t, "S = A a ; A = a | ;", "a=x"), api.InClash, 1, api.ErrClash},
		{of(t, "S = S a | b ;", "a=x", "b=y"), api.InClash, 1, api.ErrClash},
		{of(t, "S = S a | S b | ;", "a=x", "b=y"), api.InClash, 6, api.ErrClash},
		{of(t, "S = A B ; A = a | a b ; B = b | b | ;", "a=x", "b=y"), api.InClash, 2, api.ErrClash},
		// Of several the one that is named first.
		{api.Defn{Rules: rules("a=*")}, api.InLexer, 0, api.ErrRegex},
		{api.Defn{Rules: rules("a=x", "=y"), G: one("S", times(1, 31)...)}, api.InLexer, 1, api.ErrArg},
		{of(t, "S = A ;", "a=x", "b=["), api.InLexer, 1, api.ErrRegex},
		{of(t, "S = a | a ;", "a=x", states), api.InLexer, 0, api.ErrStates},
		{api.Defn{G: one("S", []string{"A"}, []string{"1"})}, api.InGrammar, 0, api.ErrArg},
		{api.Defn{G: one("S", append(times(31, 1), []string{"1"})...)}, api.InGrammar, 0, api.ErrArg},
		{api.Defn{G: one("S", times(31, 1)...)}, api.InGrammar, 0, api.ErrLong},
		{of(t, "S = a | a | A ;", "a=x"), api.InFlaws, 1, api.ErrGrammar},
	} {
		if got, want := built(x.d), refused(x.part, x.at, x.want); got != want {
			t.Errorf("%d: got %.200s, want %s", i, got, want)
		}
	}
}

// buildByWords puts together what the layers below answer.
func buildByWords(d api.Defn) string {
	x, at, e := lexer.Make(d.Rules)
	if e != api.OK {
		return refused(api.InLexer, at, e)
	}
	var names []string
	for _, rule := range d.Rules {
		if !rule.Skip {
			names = append(names, rule.Name)
		}
	}
	if e := grammar.Check(d.G); e != api.OK {
		return refused(api.InGrammar, 0, e)
	}
	if flaws := check.Flaws(d.G, names); len(flaws) > 0 {
		return refused(api.InFlaws, len(flaws), api.ErrGrammar)
	}
	c, _ := check.Number(d.G, names)
	if clashes := table.Clashes(c); len(clashes) > 0 {
		return refused(api.InClash, len(clashes), api.ErrClash)
	}
	l, _ := table.Build(c)
	var toks []int
	for _, rule := range d.Rules {
		toks = append(toks, slices.Index(names, rule.Name))
	}
	return told(api.Tables{Lex: x, Cfg: c, Table: l, Toks: toks}, 0, 0, api.OK)
}

// P14.3: many definitions, against what the layers below answer.
func TestBuildByWords(t *testing.T) {
	r := rand.New(rand.NewSource(3))
	seen := map[int]int{}
	for i := range 5000 {
		d := anyDefn(r)
		if i%5 == 0 && len(d.Rules) > 0 { // faults that Text refuses too
			rule := &d.Rules[r.Intn(len(d.Rules))]
			switch r.Intn(4) {
			case 0:
				rule.Name = "1"
			case 1:
				rule.Re = "x)"
			case 2:
				d.G.Rules[0].Alts = nil
			case 3:
				d.G.Rules[0].Alts = slices.Repeat(d.G.Rules[0].Alts, 31)
			}
		}
		_, part, _, _ := defn.Build(d)
		seen[part]++
		if got, want := built(d), buildByWords(d); got != want {
			t.Fatalf("%+v: got %s, want %s", d, got, want)
		}
	}
	for part, least := range map[int]int{0: 200, api.InLexer: 200, api.InGrammar: 200, api.InFlaws: 200, api.InClash: 200} {
		if seen[part] < least {
			t.Errorf("%d: %d definitions", part, seen[part])
		}
	}
}

// P14.3: the greatest lexers and grammars that there may be.
func TestBuildOfMost(t *testing.T) {
	d := api.Defn{Rules: many(60), G: one("S")}
	for i := range 30 {
		d.G.Rules[0].Alts = append(d.G.Rules[0].Alts, slices.Repeat([]string{d.Rules[i].Name}, 30))
	}
	x, part, at, e := defn.Build(d)
	if len(x.Toks) != 60 || len(x.Cfg.Tokens) != 60 || len(x.Table[0]) != 61 || x.Table[0][29] != 29 || x.Table[0][30] != -1 || part != 0 || at != 0 || e != api.OK {
		t.Errorf("got %v, %d, %d, %d", x.Toks, part, at, e)
	}
	d.G.Rules[0].Alts = times(30, 30)
	if got, want := built(d), refused(api.InFlaws, 2, api.ErrGrammar); got != want {
		t.Errorf("got %.200s, want %s", got, want)
	}
	d.Rules[7].Name = "a"
	if got, want := built(d), refused(api.InClash, 30*29/2, api.ErrClash); got != want {
		t.Errorf("got %.200s, want %s", got, want)
	}
	d.G = api.Grammar{}
	for i := range 60 { // each rule leads to the next one
		name, next := fmt.Sprint("R", i), fmt.Sprint("R", (i+1)%60)
		d.G.Rules = append(d.G.Rules, api.Rule{Name: name, Alts: [][]string{{d.Rules[i].Name, next}, nil}})
	}
	if got := built(d); !strings.HasSuffix(got, ", 0, 0, 0") || got != buildByWords(d) {
		t.Errorf("got %.200s", got)
	}
}

// P14.3: Compile is Build of what Read reads.
func TestCompile(t *testing.T) {
	for s, want := range map[string]string{
		example:                                         built(of(t, "S = a S b | ;", "a=x+", "b=y", "-w=[ ]+")),
		example + "\n# x":                               built(of(t, "S = a S b | ;", "a=x+", "b=y", "-w=[ ]+")),
		"grammar\nS=;":                                  built(of(t, "S=;")),
		"token a \\n\ngrammar\nS = a | ;":               built(of(t, "S = a | ;", "a=\n")),
		"":                                              refused(api.InText, 0, api.ErrForm),
		"token a x\ntoken b y":                          refused(api.InText, 2, api.ErrForm),
		"\ntoken a x\nno\ngrammar\nS=;":                 refused(api.InText, 2, api.ErrForm),
		strings.Repeat("#", 4097):                       refused(api.InText, 0, api.ErrLong),
		"token a *\ngrammar\nS = a":                     refused(api.InGrammar, 5, api.ErrSyntax),
		"token a x\ngrammar":                            refused(api.InGrammar, 0, api.ErrSyntax),
		"grammar\n" + strings.Repeat("S=;", 61):         refused(api.InGrammar, 0, api.ErrLong),
		"token  x\ngrammar\nS=;":                        refused(api.InLexer, 0, api.ErrArg),
		"\ntoken a x\n#\nskip b *\ngrammar\nS=;":        refused(api.InLexer, 1, api.ErrRegex),
		"token a x\nskip w y\ngrammar\nS = a w S | b ;": refused(api.InFlaws, 3, api.ErrGrammar),
		"token a x\ntoken b y\ngrammar\nS = a | a b ;":  refused(api.InClash, 1, api.ErrClash),
	} {
		if got := compiled(s); got != want {
			t.Errorf("%.60q: got %s, want %s", s, got, want)
		}
	}
	r := rand.New(rand.NewSource(4))
	for range 3000 {
		s := anyLines(r)
		d, part, at, e := defn.Read(s)
		want := refused(part, at, e)
		if e == api.OK {
			want = built(d)
		}
		if got := compiled(s); got != want {
			t.Fatalf("%q: got %s, want %s", s, got, want)
		}
	}
}

// R2, R5: definitions that were handed in stay what they are, and may be written into later; tables are the caller's own.
func TestBuildSharesNothing(t *testing.T) {
	fresh := func() api.Defn { return of(t, "S = a T ; T = b S | ;", "a=x+", "-w=[ ]+", "b=y") }
	d, want := fresh(), built(fresh())
	x, _, _, _ := defn.Build(d)
	y, _, _, _ := defn.Build(d)
	if !same(d, fresh()) {
		t.Errorf("it is %+v now", d)
	}
	d.Rules[0], d.G.Rules[0].Name, d.G.Rules[1].Alts[0][0] = api.LexRule{Name: "other"}, "other", "other"
	x.Lex.Names[0], x.Lex.Skip[0], x.Toks[2] = "other", true, 7
	if x.Cfg.Tokens[0] != "a" {
		t.Error("the lexer's names are the grammar's tokens")
	}
	x.Cfg.Tokens[0], x.Cfg.Names[1], x.Cfg.Alts[0][0][0], x.Table[0][0] = "other", "other", 9, 9
	clear(x.Lex.D.Accept)
	clear(x.Lex.D.Moves[0])
	if got := told(y, 0, 0, api.OK); got != want {
		t.Errorf("got %s, want %s", got, want)
	}
}
