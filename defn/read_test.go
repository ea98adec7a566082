package defn_test

import (
	"math/rand"
	"regexp"
	"slices"
	"strings"
	"testing"

	"quincunx/api"
	"quincunx/defn"
	"quincunx/grammar"
)

// rules makes a lexer's rules of texts: a name, =, an expression; of one that is passed over a - stands ahead.
func rules(l ...string) []api.LexRule {
	var out []api.LexRule
	for _, s := range l {
		s, skip := strings.CutPrefix(s, "-")
		name, re, _ := strings.Cut(s, "=")
		out = append(out, api.LexRule{Name: name, Re: re, Skip: skip})
	}
	return out
}

// of is a definition of a grammar's text, and rules.
func of(t *testing.T, g string, l ...string) api.Defn {
	t.Helper()
	got, _, e := grammar.Parse(g)
	if e != api.OK {
		t.Fatalf("%q: got %d", g, e)
	}
	return api.Defn{Rules: rules(l...), G: got}
}

// same tells whether two definitions are the same.
func same(a, b api.Defn) bool {
	return slices.Equal(a.Rules, b.Rules) && grammar.Same(a.G, b.G)
}

const example = "token a x+\ntoken b y\nskip w [ ]+\ngrammar\nS = a S b | ;"

// P14.1: texts that are definitions'.
func TestRead(t *testing.T) {
	for _, x := range []struct {
		s    string
		want api.Defn
	}{
		{example, of(t, "S = a S b | ;", "a=x+", "b=y", "-w=[ ]+")},
		{example + "\n", of(t, "S = a S b | ;", "a=x+", "b=y", "-w=[ ]+")},
		{"grammar\nS=;", of(t, "S=;")},
		{"grammar\nS=;\n", of(t, "S=;")},
		{"grammar\n\n\n S\n=\n;", of(t, "S=;")},
		{"\ngrammar\nS=;", of(t, "S=;")},
		{"#\n\n\n##\n# token b y\n#grammar\n#\xff\x00\ngrammar\nS=;", of(t, "S=;")},
		{"\n# x\ntoken a x\n\n#token b y\n#\nskip c z\n\ngrammar\nS=;", of(t, "S=;", "a=x", "-c=z")},
		{"skip a x\ntoken b y\nskip c z\ngrammar\nS=;", of(t, "S=;", "-a=x", "b=y", "-c=z")},
		{"token b y\ntoken a x\ngrammar\nS=;", of(t, "S=;", "b=y", "a=x")},
		// A blank that is wanted is one; what is left of the line is the expression, blanks too.
		{"token a x y  z \ngrammar\nS=;", of(t, "S=;", "a=x y  z ")},
		{"token a  x\ngrammar\nS=;", of(t, "S=;", "a= x")},
		{"token a \ngrammar\nS=;", of(t, "S=;", "a=")},
		{"skip a \ngrammar\nS=;", of(t, "S=;", "-a=")},
		{"token a   \ngrammar\nS=;", of(t, "S=;", "a=  ")},
		{"token a #x\ngrammar\nS=;", of(t, "S=;", "a=#x")},
		{"token a x\r\ngrammar\nS=;", of(t, "S=;", "a=x\r")},
		{"token a x\ty\ngrammar\nS=;", of(t, "S=;", "a=x\ty")},
		{"token a \xff\x00é\ngrammar\nS=;", of(t, "S=;", "a=\xff\x00é")},
		// Names and expressions are not looked at.
		{"token  x\ngrammar\nS=;", of(t, "S=;", "=x")},
		{"token  x y\ngrammar\nS=;", of(t, "S=;", "=x y")},
		{"token  \ngrammar\nS=;", of(t, "S=;", "=")},
		{"skip   \ngrammar\nS=;", of(t, "S=;", "-= ")},
		{"token 1 *\ngrammar\nS=;", of(t, "S=;", "1=*")},
		{"token #a\tb x\ngrammar\nS=;", of(t, "S=;", "#a\tb=x")},
		{"token a x\ntoken a x\nskip a x\ngrammar\nS=;", of(t, "S=;", "a=x", "a=x", "-a=x")},
		{"token " + strings.Repeat("n", 40) + " (\ngrammar\nS=;", of(t, "S=;", strings.Repeat("n", 40)+"=(")},
		{strings.Repeat("token a x\n", 100) + "grammar\nS=;", of(t, "S=;", slices.Repeat([]string{"a=x"}, 100)...)},
		// The words may be names, and expressions.
		{"token token skip\nskip skip token\ntoken grammar grammar\ngrammar\nS=;", of(t, "S=;", "token=skip", "-skip=token", "grammar=grammar")},
		// Behind the line of the grammar there are no lines.
		{"grammar\ntoken = grammar ; grammar = skip ;", of(t, "token = grammar ; grammar = skip ;")},
		{"grammar\ngrammar\n=\n;", of(t, "grammar = ;")},
		{"grammar\n# token a x\n#\nS = # token a x\n;", of(t, "S=;")},
		// Flaws and clashes are not looked for.
		{"token S x\ngrammar\nS = a | a b | S ; S = S ;", of(t, "S = a | a b | S ; S = S ;", "S=x")},
	} {
		got, part, at, e := defn.Read(x.s)
		if !same(got, x.want) || part != 0 || at != 0 || e != api.OK {
			t.Errorf("%q: got %+v, %d, %d, %d", x.s, got, part, at, e)
		}
	}
}

// P14.1: texts that are refused, at which line or place.
func TestReadRefuses(t *testing.T) {
	for _, x := range []struct {
		s        string
		part, at int
		want     api.Errno
	}{
		// No line is the grammar's: how many lines there are.
		{"", api.InText, 0, api.ErrForm},
		{"\n", api.InText, 1, api.ErrForm},
		{"\n\n", api.InText, 2, api.ErrForm},
		{"#", api.InText, 1, api.ErrForm},
		{"#\n", api.InText, 1, api.ErrForm},
		{"#grammar\nS=;", api.InText, 1, api.ErrForm},
		{"token a x", api.InText, 1, api.ErrForm},
		{"token a x\n", api.InText, 1, api.ErrForm},
		{"token a x\n\n", api.InText, 2, api.ErrForm},
		{"token a x\n#", api.InText, 2, api.ErrForm},
		{"token a x\nskip b y", api.InText, 2, api.ErrForm},
		{"token a x+\ntoken b y\nskip w [ ]+\n", api.InText, 3, api.ErrForm},
		{"\n\ntoken a x\n\n# x\ntoken b y\n\n", api.InText, 7, api.ErrForm},
		{"token a grammar\n", api.InText, 1, api.ErrForm},
		// Lines that are none.
		{"token", api.InText, 0, api.ErrForm},
		{"token ", api.InText, 0, api.ErrForm},
		{"token a", api.InText, 0, api.ErrForm},
		{"skip", api.InText, 0, api.ErrForm},
		{"skip ", api.InText, 0, api.ErrForm},
		{"skip a", api.InText, 0, api.ErrForm},
		{"token a\nx y\ngrammar\nS=;", api.InText, 0, api.ErrForm},
		{"token a\tx\ngrammar\nS=;", api.InText, 0, api.ErrForm},
		{"token\ta x\ngrammar\nS=;", api.InText, 0, api.ErrForm},
		{"tokena x y\ngrammar\nS=;", api.InText, 0, api.ErrForm},
		{"tokens a x\ngrammar\nS=;", api.InText, 0, api.ErrForm},
		{"toke a x\ngrammar\nS=;", api.InText, 0, api.ErrForm},
		{"Token a x\ngrammar\nS=;", api.InText, 0, api.ErrForm},
		{"SKIP a x\ngrammar\nS=;", api.InText, 0, api.ErrForm},
		{"skips a x\ngrammar\nS=;", api.InText, 0, api.ErrForm},
		{"grammar a x\ngrammar\nS=;", api.InText, 0, api.ErrForm},
		{"a x y\ngrammar\nS=;", api.InText, 0, api.ErrForm},
		{" a x\ngrammar\nS=;", api.InText, 0, api.ErrForm},
		{" token a x\ngrammar\nS=;", api.InText, 0, api.ErrForm},
		{"S = a ;", api.InText, 0, api.ErrForm},
		{" \ngrammar\nS=;", api.InText, 0, api.ErrForm},
		{"  \ngrammar\nS=;", api.InText, 0, api.ErrForm},
		{"\r\ngrammar\nS=;", api.InText, 0, api.ErrForm},
		{" # x\ngrammar\nS=;", api.InText, 0, api.ErrForm},
		{"grammar \nS=;", api.InText, 0, api.ErrForm},
		{" grammar\nS=;", api.InText, 0, api.ErrForm},
		{"grammar\r\nS=;", api.InText, 0, api.ErrForm},
		{"grammar S=;", api.InText, 0, api.ErrForm},
		{"grammars\nS=;", api.InText, 0, api.ErrForm},
		{"Grammar\nS=;", api.InText, 0, api.ErrForm},
		{"grammar# x\nS=;", api.InText, 0, api.ErrForm},
		// The first one; all lines are counted.
		{"token a x\ntoken b\ngrammar\nS=;", api.InText, 1, api.ErrForm},
		{"\n#\n\ntoken a x\n\nno\ngrammar\nS=;", api.InText, 5, api.ErrForm},
		{"token a x\nno\nnever\ntoken b\n", api.InText, 1, api.ErrForm},
		{"\n\nno\n\n", api.InText, 2, api.ErrForm},
		{"\n\nno", api.InText, 2, api.ErrForm},
		{"no\ngrammar\nS = a", api.InText, 0, api.ErrForm},
		// The grammar's text.
		{"grammar", api.InGrammar, 0, api.ErrSyntax},
		{"grammar\n", api.InGrammar, 0, api.ErrSyntax},
		{"grammar\n\n", api.InGrammar, 1, api.ErrSyntax},
		{"token a x\ngrammar", api.InGrammar, 0, api.ErrSyntax},
		{"grammar\nS = a", api.InGrammar, 5, api.ErrSyntax},
		{"token a x\n\n#\ngrammar\nS = a", api.InGrammar, 5, api.ErrSyntax},
		{"token a x\ngrammar\nS = a ;\n= b ;", api.InGrammar, 8, api.ErrSyntax},
		{"grammar\n= ;", api.InGrammar, 0, api.ErrSyntax},
		{"grammar\ngrammar\nS=;", api.InGrammar, 8, api.ErrSyntax},
		{"grammar\nS=;\ntoken a x", api.InGrammar, 10, api.ErrSyntax},
		{"token  *\ngrammar\nS", api.InGrammar, 1, api.ErrSyntax},
		{"token a x\ngrammar\n" + strings.Repeat("S=;", 61), api.InGrammar, 0, api.ErrLong},
		{"grammar\nS=;T=" + strings.Repeat("|", 30) + ";", api.InGrammar, 0, api.ErrLong},
		{"grammar\nS=" + strings.Repeat("a ", 31) + ";", api.InGrammar, 0, api.ErrLong},
		// The longest, and what is too long.
		{strings.Repeat("\n", 4096), api.InText, 4096, api.ErrForm},
		{strings.Repeat("#", 4096), api.InText, 1, api.ErrForm},
		{"grammar\n" + strings.Repeat(" ", 4088), api.InGrammar, 4088, api.ErrSyntax},
		{strings.Repeat("\n", 4097), api.InText, 0, api.ErrLong},
		{strings.Repeat("no\n", 1366), api.InText, 0, api.ErrLong},
		{"grammar\nS = a" + strings.Repeat(" ", 4084), api.InText, 0, api.ErrLong},
		{"grammar\nS=;" + strings.Repeat(" ", 4086), api.InText, 0, api.ErrLong},
		{strings.Repeat("token a x\n", 1<<20), api.InText, 0, api.ErrLong},
	} {
		got, part, at, e := defn.Read(x.s)
		if !same(got, api.Defn{}) || part != x.part || at != x.at || e != x.want {
			t.Errorf("%.60q: got %+v, %d, %d, %d, want %d, %d, %d", x.s, got, part, at, e, x.part, x.at, x.want)
		}
	}
}

// P14.1: texts of MaxText bytes.
func TestReadOfLongest(t *testing.T) {
	const behind = "grammar\nS=;"
	pad := api.MaxText - len(behind)
	for s, want := range map[string]api.Defn{
		behind + strings.Repeat(" ", pad):                       of(t, "S=;"),
		strings.Repeat("\n", pad) + behind:                      of(t, "S=;"),
		"#" + strings.Repeat("x", pad-2) + "\n" + behind:        of(t, "S=;"),
		"token a " + strings.Repeat("x", pad-9) + "\n" + behind: of(t, "S=;", "a="+strings.Repeat("x", pad-9)),
		"skip " + strings.Repeat("n", pad-7) + " \n" + behind:   of(t, "S=;", "-"+strings.Repeat("n", pad-7)+"="),
	} {
		if len(s) != api.MaxText {
			t.Fatalf("%.20q: it has %d bytes", s, len(s))
		}
		if got, part, at, e := defn.Read(s); !same(got, want) || part != 0 || at != 0 || e != api.OK {
			t.Errorf("%.20q: got %d rules, %d, %d, %d", s, len(got.Rules), part, at, e)
		}
		if got, part, at, e := defn.Read(s + "\n"); !same(got, api.Defn{}) || part != api.InText || at != 0 || e != api.ErrLong {
			t.Errorf("%.20q, and a byte: got %d rules, %d, %d, %d", s, len(got.Rules), part, at, e)
		}
	}
}

// ruleLine is a line that is a lexer's rule.
var ruleLine = regexp.MustCompile(`(?s)\A(token|skip) ([^ ]*) (.*)\z`)

// readByWords reads a definition as the chapter's words tell it.
func readByWords(s string) (api.Defn, int, int, api.Errno) {
	all := strings.Split(s, "\n")
	if all[len(all)-1] == "" {
		all = all[:len(all)-1]
	}
	var d api.Defn
	for i, line := range all {
		m := ruleLine.FindStringSubmatch(line)
		switch {
		case line == "grammar":
			text := strings.TrimPrefix(s, strings.Join(all[:i+1], "\n"))
			g, at, e := grammar.Parse(strings.TrimPrefix(text, "\n"))
			if e != api.OK {
				return api.Defn{}, api.InGrammar, at, e
			}
			d.G = g
			return d, 0, 0, api.OK
		case m != nil:
			d.Rules = append(d.Rules, api.LexRule{Name: m[2], Re: m[3], Skip: m[1] == "skip"})
		case line != "" && !strings.HasPrefix(line, "#"):
			return api.Defn{}, api.InText, i, api.ErrForm
		}
	}
	return api.Defn{}, api.InText, len(all), api.ErrForm
}

// checkRead holds Read against the words, and tells its error.
func checkRead(t *testing.T, s string) api.Errno {
	t.Helper()
	want, wantPart, wantAt, wantE := readByWords(s)
	got, part, at, e := defn.Read(s)
	if !same(got, want) || part != wantPart || at != wantAt || e != wantE {
		t.Fatalf("%q: got %+v, %d, %d, %d, want %+v, %d, %d, %d", s, got, part, at, e, want, wantPart, wantAt, wantE)
	}
	return e
}

// P14.1: each byte at each place of a definition, put in, and in another's place.
func TestReadOfBytes(t *testing.T) {
	const s = "#r\n\ntoken a x\nskip b \n\ngrammar\nS = a ;"
	for at := range len(s) + 1 {
		for i := range 256 {
			c := string([]byte{byte(i)})
			checkRead(t, s[:at]+c+s[at:])
			if at < len(s) {
				checkRead(t, s[:at]+c+s[at+1:])
			}
		}
	}
}

// P14.1: each piece of a definition's text is read, or refused, as the words tell.
func TestReadOfPieces(t *testing.T) {
	const s = "#r\n\ntoken a x y\n\nskip b \ngrammar\nS = a |\n; # x\n"
	for from := range len(s) + 1 {
		for to := from; to <= len(s); to++ {
			checkRead(t, s[from:to])
		}
	}
}

// anyLines is a text of lines, most of them of those that there are.
func anyLines(r *rand.Rand) string {
	most := []string{"token a x", "token bc [a-z]+ x", "skip w  ", "", "#", "# token a x", "token  ", "grammar"}
	few := []string{"token", "token a", "skip ", "grammar ", "GRAMMAR", " ", "\r", "token\ta x", "x y z", "S = a ;", "\xff", "skip", "tokens a x", " # x"}
	var l []string
	for range r.Intn(8) {
		if r.Intn(12) == 0 {
			l = append(l, few[r.Intn(len(few))])
		} else {
			l = append(l, most[r.Intn(len(most)-r.Intn(2))])
		}
	}
	if r.Intn(4) > 0 {
		l = append(l, "grammar", []string{"S = a ;", "", "S = | ; T = x y ;", "# x", "S = a", "S=;\n\nT=;\n"}[r.Intn(6)])
	}
	return strings.Join(l, "\n") + []string{"", "\n"}[r.Intn(2)]
}

// P14.1: many texts, against the chapter's words.
func TestReadByWords(t *testing.T) {
	r := rand.New(rand.NewSource(1))
	seen := map[api.Errno]int{}
	for range 20000 {
		seen[checkRead(t, anyLines(r))]++
	}
	if seen[api.OK] < 2000 || seen[api.ErrForm] < 2000 || seen[api.ErrSyntax] < 2000 {
		t.Errorf("got %v", seen)
	}
}

// R2, R5: what was read is the caller's own, and the same comes again.
func TestReadSharesNothing(t *testing.T) {
	want := of(t, "S = a S b | ;", "a=x+", "b=y", "-w=[ ]+")
	d, _, _, _ := defn.Read(example)
	again, _, _, _ := defn.Read(example)
	d.Rules[0] = api.LexRule{Name: "other"}
	d.Rules = append(d.Rules[:1], api.LexRule{Name: "more"})
	d.G.Rules[0].Alts[0][0] = "other"
	d.G.Rules[0].Name = "other"
	if !same(again, want) {
		t.Errorf("got %+v", again)
	}
	if last, _, _, _ := defn.Read(example); !same(last, want) {
		t.Errorf("then %+v", last)
	}
}

func FuzzRead(f *testing.F) {
	f.Add(example)
	f.Add("\n# x\nskip  \ngrammar\nS=;")
	f.Fuzz(func(t *testing.T, s string) {
		if len(s) <= api.MaxText {
			checkRead(t, s)
		}
	})
}
