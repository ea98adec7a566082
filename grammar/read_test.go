package grammar_test

import (
	"math/rand"
	"regexp"
	"slices"
	"strings"
	"testing"

	"quincunx/api"
	"quincunx/grammar"
)

// P7.2: texts that are grammars'.
func TestParse(t *testing.T) {
	for _, x := range []struct {
		s    string
		want api.Grammar
	}{
		{"S = a S b | ;", of(rule("S", "a S b", ""))},
		{"S=;", of(rule("S", ""))},
		{"S=a;", of(rule("S", "a"))},
		{"S=|;", of(rule("S", "", ""))},
		{"S=a|;", of(rule("S", "a", ""))},
		{"S=|a;", of(rule("S", "", "a"))},
		{"S=a||b;", of(rule("S", "a", "", "b"))},
		{"S=|||;", of(rule("S", "", "", "", ""))},
		{"S=a;T=b;", of(rule("S", "a"), rule("T", "b"))},
		{"S=T T;T=a b|c;U=;", of(rule("S", "T T"), rule("T", "a b", "c"), rule("U", ""))},
		{"S=S;", of(rule("S", "S"))},
		{"S=a;S=b;", of(rule("S", "a"), rule("S", "b"))},
		{"_=_a1 __;", of(rule("_", "_a1 __"))},
		{"ab=cd ef;", of(rule("ab", "cd ef"))}, // a name is as long as it can be
		{"a1=b2c3;", of(rule("a1", "b2c3"))},
		{" S = a ; ", of(rule("S", "a"))},
		{"\tS\n=\ra\t\n\r b \n;\n\n", of(rule("S", "a b"))},
		{"# about it\nS = a # more\n| b #; c\n; # T = a ;", of(rule("S", "a", "b"))},
		{"#\nS#\n=#\na#x\nb#\n;#", of(rule("S", "a b"))},
		{"##\n#\n# #\nS=a;#\n", of(rule("S", "a"))},
		{"#\rS=b;\nS=a;", of(rule("S", "a"))}, // a 13 ends no remark
		{"#\xff\x00 é \"\nS=a;#\xff", of(rule("S", "a"))},
		{"S=a#;\n;", of(rule("S", "a"))},
		{long(32) + "=" + long(32) + " " + long(32) + ";", of(rule(long(32), long(32)+" "+long(32)))},
		{strings.Repeat("S=;", 60), of(slices.Repeat([]api.Rule{rule("S", "")}, 60)...)},
		{"S=" + strings.Repeat("|", 29) + ";", of(rule("S", times(30, "")...))},
		{"S=" + strings.Repeat("a ", 30) + ";", of(rule("S", strings.Repeat("a ", 30)))},
		{"S=" + strings.Repeat(strings.Repeat("a ", 30)+"|", 29) + strings.Repeat("b ", 30) + ";", of(rule("S", append(times(29, strings.Repeat("a ", 30)), strings.Repeat("b ", 30))...))},
		{"S=a;" + strings.Repeat(" ", 4092), of(rule("S", "a"))},
		{"#" + strings.Repeat("S", 4091) + "\nS=;", of(rule("S", ""))},
	} {
		got, at, e := grammar.Parse(x.s)
		if !grammar.Same(got, x.want) || at != 0 || e != api.OK {
			t.Errorf("%q: got %v, %d, %d", x.s, got, at, e)
		}
	}
}

// P7.2: texts that are refused, and where.
func TestParseRefuses(t *testing.T) {
	most := strings.Repeat("S=;", 60)
	for _, x := range []struct {
		s    string
		at   int
		want api.Errno
	}{
		{"", 0, api.ErrSyntax},
		{"  ", 2, api.ErrSyntax},
		{"# S = a ;", 9, api.ErrSyntax},
		{"\n#\n", 3, api.ErrSyntax},
		{"S", 1, api.ErrSyntax},
		{"S ", 2, api.ErrSyntax},
		{"S # =", 5, api.ErrSyntax},
		{"S =", 3, api.ErrSyntax},
		{"S = a", 5, api.ErrSyntax},
		{"S = a # ;", 9, api.ErrSyntax},
		{"S = a |", 7, api.ErrSyntax},
		{"S = a | \n", 9, api.ErrSyntax},
		{"S = a ; T", 9, api.ErrSyntax},
		{"S = a ; T = b", 13, api.ErrSyntax},
		{"= ;", 0, api.ErrSyntax},
		{" = ;", 1, api.ErrSyntax},
		{"|", 0, api.ErrSyntax},
		{";", 0, api.ErrSyntax},
		{"S ;", 2, api.ErrSyntax},
		{"S | a ;", 2, api.ErrSyntax},
		{"S T = a ;", 2, api.ErrSyntax},
		{"S = = a ;", 4, api.ErrSyntax},
		{"S = a = b ;", 6, api.ErrSyntax},
		{"S = a ; ;", 8, api.ErrSyntax},
		{"S = a ; | b ;", 8, api.ErrSyntax},
		{"S = a ; = b ;", 8, api.ErrSyntax},
		{"S = a T = b ;", 8, api.ErrSyntax},
		{"S := a ;", 2, api.ErrSyntax},
		{"S = (a) ;", 4, api.ErrSyntax},
		{"S = a-b ;", 5, api.ErrSyntax},
		{"S = 'a' ;", 4, api.ErrSyntax},
		{"S = 1 ;", 4, api.ErrSyntax},
		{"S = 1a ;", 4, api.ErrSyntax},
		{"S = a 12 ;", 6, api.ErrSyntax},
		{"1 = a ;", 0, api.ErrSyntax},
		{"S 1 = a ;", 2, api.ErrSyntax},
		{"S = a ;1", 7, api.ErrSyntax},
		{"S = é ;", 4, api.ErrSyntax},
		{"S = aé ;", 5, api.ErrSyntax},
		{"S = a\x00;", 5, api.ErrSyntax},
		{"S = a\v;", 5, api.ErrSyntax},
		{"S = a\f;", 5, api.ErrSyntax},
		{"S\u00a0= a ;", 1, api.ErrSyntax},
		{"\ufeffS = a ;", 0, api.ErrSyntax},
		{"S = a ; \xff", 8, api.ErrSyntax},
		{long(33), 0, api.ErrSyntax}, // its first byte
		{long(33) + " = a ;", 0, api.ErrSyntax},
		{"S = a " + long(33) + " ;", 6, api.ErrSyntax},
		{"S = a|" + long(33), 6, api.ErrSyntax},
		{"S = a ; " + long(4000), 8, api.ErrSyntax},
		{"S = " + long(31) + "99;", 4, api.ErrSyntax},
		{"S = a ; T " + long(33) + " = b ;", 10, api.ErrSyntax},
		{"S = " + long(33) + "(", 4, api.ErrSyntax},
		{"S = " + long(32) + "(", 36, api.ErrSyntax},
		{most + "S=;", 0, api.ErrLong},
		{most + most, 0, api.ErrLong},
		{most + "S=", 182, api.ErrSyntax},
		{most + "S=;(", 183, api.ErrSyntax},
		{"S=" + strings.Repeat("|", 30) + ";", 0, api.ErrLong},
		{"S=a;T=" + strings.Repeat("a|", 30) + "a;U=b;", 0, api.ErrLong},
		{"S=" + strings.Repeat("|", 30) + ";;", 33, api.ErrSyntax},
		{"S=" + strings.Repeat("a ", 31) + ";", 0, api.ErrLong},
		{"S=a;T=b|" + strings.Repeat("a ", 31) + "|c;", 0, api.ErrLong},
		{"S=" + strings.Repeat("a ", 31), 64, api.ErrSyntax},
		{"S=a;" + strings.Repeat(" ", 4093), 0, api.ErrLong},
		{strings.Repeat("(", 4096), 0, api.ErrSyntax},
		{strings.Repeat(" ", 4096), 4096, api.ErrSyntax},
		{strings.Repeat(" ", 4097), 0, api.ErrLong},
		{" (" + strings.Repeat(" ", 4095), 0, api.ErrLong},
		{"#" + strings.Repeat("S", 4092) + "\nS=;", 0, api.ErrLong},
		{strings.Repeat("S=;", 1<<20), 0, api.ErrLong},
	} {
		got, at, e := grammar.Parse(x.s)
		if len(got.Rules) != 0 || at != x.at || e != x.want {
			t.Errorf("%.60q: got %v, %d, %d, want %d, %d", x.s, got, at, e, x.at, x.want)
		}
	}
}

// P7.2: each byte between names, as a blank or none; each in a name.
func TestParseOfBytes(t *testing.T) {
	for i := range 256 {
		c := string([]byte{byte(i)})
		got, at, e := grammar.Parse("S=a" + c + "b;\n;")
		want, wantAt, wantE := of(), 3, api.ErrSyntax
		switch {
		case strings.Contains(" \t\n\r", c):
			want, wantAt = of(rule("S", "a b")), 7
		case c == "#":
			want, wantAt, wantE = of(rule("S", "a")), 0, api.OK
		case c == ";":
			wantAt = 5
		case c == "|":
			wantAt = 7
		case regexp.MustCompile("^[A-Za-z0-9_]$").MatchString(c):
			wantAt = 7
		}
		if wantE == api.ErrSyntax {
			want = of()
		}
		if !grammar.Same(got, want) || at != wantAt || e != wantE {
			t.Errorf("%q: got %v, %d, %d", c, got, at, e)
		}
	}
}

// whole matches grammars' texts, as the chapter tells them; \b keeps names as long as they can be.
var whole = func() *regexp.Regexp {
	const blanks = `([ \t\n\r]|#[^\n]*(\n|\z))*`
	const name = `\b[A-Za-z_][A-Za-z0-9_]{0,31}\b` + blanks
	return regexp.MustCompile(`\A` + blanks + `(` + name + `=` + blanks + `(` + name + `|\|` + blanks + `)*;` + blanks + `)+\z`)
}()

// goes tells whether there is a grammar's text that begins so.
func goes(s string) bool {
	for _, behind := range []string{"", "\n;", "\n=;", "\nS=;"} {
		if whole.MatchString(s + behind) {
			return true
		}
	}
	return false
}

// faultByWords is the first byte that does not go, of a text that is no grammar's.
func faultByWords(s string) int {
	isLetter := func(at int) bool { return at >= 0 && regexp.MustCompile(`\A\w`).MatchString(s[at:]) }
	for at := range len(s) {
		if goes(s[:at+1]) {
			continue
		}
		for isLetter(at) && isLetter(at-1) { // a name too long
			at--
		}
		return at
	}
	return len(s)
}

// anyText is a text of what grammars are made of, with a few other bytes.
func anyText(r *rand.Rand) string {
	pieces := []string{"S", "a", "b1", "_", long(32), long(33), "S=", "a;", "a b", " = ", ";", "|", "=", " ", "\n", "#", "# x\n", "\t", "\r", "7", "(", "é"}
	s := ""
	for range r.Intn(12) {
		s += pieces[min(r.Intn(len(pieces)), r.Intn(len(pieces)))]
	}
	return s
}

// P7.2: many texts, those of grammars with a fault put in among them, against the chapter's words.
func TestParseByWords(t *testing.T) {
	r := rand.New(rand.NewSource(9))
	right, wrong := 0, 0
	for i := range 6000 {
		s := anyText(r)
		if i%2 == 0 {
			s, _ = grammar.Text(anyGrammar(r))
			if i%4 == 0 && len(s) > 0 {
				at := r.Intn(len(s))
				s = s[:at] + anyText(r) + s[at+r.Intn(2):]
			}
		}
		g, at, e := grammar.Parse(s)
		if whole.MatchString(s) {
			right++
			if len(g.Rules) == 0 || at != 0 || e != api.OK {
				t.Fatalf("%q: got %v, %d, %d", s, g, at, e)
			}
			continue
		}
		wrong++
		if want := faultByWords(s); len(g.Rules) != 0 || at != want || e != api.ErrSyntax {
			t.Fatalf("%q: got %v, %d, %d, want %d", s, g, at, e, want)
		}
	}
	if right < 1500 || wrong < 1500 {
		t.Errorf("%d are right, %d wrong", right, wrong)
	}
}

// P7.4: blanks and remarks between words change nothing.
func TestBlanksChangeNothing(t *testing.T) {
	r := rand.New(rand.NewSource(10))
	blanks := []string{" ", "\t", "\n", "\r", "#\n", "# S = a ; | \n", "#\r#\n", "  \n"}
	for range 1000 {
		g := anyGrammar(r)
		s, _ := grammar.Text(g)
		var b strings.Builder
		for _, word := range append([]string{""}, strings.Fields(s)...) {
			b.WriteString(word)
			for range 1 + r.Intn(3) {
				b.WriteString(blanks[r.Intn(len(blanks))])
			}
		}
		spread := b.String()
		if r.Intn(2) == 0 {
			spread += "# to the end"
		}
		if got, at, e := grammar.Parse(spread); !grammar.Same(got, g) || at != 0 || e != api.OK {
			t.Fatalf("%q: got %v, %d, %d", spread, got, at, e)
		}
		tight := regexp.MustCompile(` ?([=|;]) ?\n?`).ReplaceAllString(s, "$1")
		if got, at, e := grammar.Parse(tight); !grammar.Same(got, g) || at != 0 || e != api.OK {
			t.Fatalf("%q: got %v, %d, %d", tight, got, at, e)
		}
	}
}

// R2, R5: what was read is the caller's own, and the same comes again.
func TestParseSharesNothing(t *testing.T) {
	const s = "S = a b | c | ; T = | S S S ;"
	want := of(rule("S", "a b", "c", ""), rule("T", "", "S S S"))
	g, _, _ := grammar.Parse(s)
	again, _, _ := grammar.Parse(s)
	g.Rules[0].Alts[0] = append(g.Rules[0].Alts[0], "x", "y", "z")
	g.Rules[0].Alts[1][0] = "other"
	g.Rules[0].Alts = append(g.Rules[0].Alts, []string{"z"})
	g.Rules[1].Alts[0] = append(g.Rules[1].Alts[0], "x")
	if !grammar.Same(api.Grammar{Rules: g.Rules[1:]}, of(rule("T", "x", "S S S"))) {
		t.Errorf("the rules share: %v", g)
	}
	g.Rules[0] = rule("U", "")
	if !grammar.Same(again, want) {
		t.Errorf("got %v", again)
	}
	if last, _, _ := grammar.Parse(s); !grammar.Same(last, want) {
		t.Errorf("then %v", last)
	}
}

func FuzzParse(f *testing.F) {
	f.Add("S = a S b | ;")
	f.Add("# x\nS=;T=" + long(33))
	f.Fuzz(func(t *testing.T, s string) {
		g, at, e := grammar.Parse(s)
		switch e {
		case api.OK:
			again, err := grammar.Text(g)
			back, _, _ := grammar.Parse(again)
			if at != 0 || err != api.OK || len(again) <= api.MaxText && !grammar.Same(back, g) {
				t.Errorf("%q: got %d, then %q, %v", s, at, again, back)
			}
		case api.ErrSyntax:
			if whole.MatchString(s) || at != faultByWords(s) {
				t.Errorf("%q: got %d", s, at)
			}
		default:
			if e != api.ErrLong || at != 0 {
				t.Errorf("%q: got %d, %d", s, at, e)
			}
		}
	})
}
