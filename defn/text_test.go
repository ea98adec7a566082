package defn_test

import (
	"fmt"
	"math/rand"
	"slices"
	"strconv"
	"strings"
	"testing"

	"quincunx/api"
	"quincunx/defn"
	"quincunx/grammar"
	"quincunx/regex"
)

// P14.2: definitions, and their texts.
func TestText(t *testing.T) {
	for _, x := range []struct {
		d    api.Defn
		want string
	}{
		{of(t, "S = a S b | ;", "a=x+", "b=y", "-w=[ ]+"), "token a x+\ntoken b y\nskip w  +\ngrammar\nS = a S b | ;\n"},
		{of(t, "S=;"), "grammar\nS = ;\n"},
		{of(t, "S=a|;T=S S;#x", "a=x"), "token a x\ngrammar\nS = a | ;\nT = S S ;\n"},
		{of(t, "S=;", "b=y", "-_=z", "a=x"), "token b y\nskip _ z\ntoken a x\ngrammar\nS = ;\n"},
		{of(t, "S=;", "token=skip", "-skip=token", "grammar=grammar"), "token token skip\nskip skip token\ntoken grammar grammar\ngrammar\nS = ;\n"},
		{of(t, "grammar=token;", "token=x"), "token token x\ngrammar\ngrammar = token ;\n"},
		// Expressions are written anew; none has a line's end in it.
		{of(t, "S=;", "a="), "token a ()\ngrammar\nS = ;\n"},
		{of(t, "S=;", "-a= "), "skip a  \ngrammar\nS = ;\n"},
		{of(t, "S=;", "a= x "), "token a  x \ngrammar\nS = ;\n"},
		{of(t, "S=;", "a=\n"), "token a \\n\ngrammar\nS = ;\n"},
		{of(t, "S=;", "a=[\n\r\t]#"), "token a [\\t\\n\\r]#\ngrammar\nS = ;\n"},
		{of(t, "S=;", "a=#"), "token a #\ngrammar\nS = ;\n"},
		{of(t, "S=;", "a=[cab]"), "token a [a-c]\ngrammar\nS = ;\n"},
		{of(t, "S=;", "a=(((x)|y))*", "b=(a)(b)", "c=a|"), "token a (x|y)*\ntoken b ab\ntoken c a|()\ngrammar\nS = ;\n"},
		{of(t, "S=;", `a=\x41\x7f`+"\xff\x00"), "token a A\\x7f\\xff\\x00\ngrammar\nS = ;\n"},
		{of(t, "S=;", "a=.", "b=[^a]"), "token a [\\x00-\\t\\x0b-\\xff]\ntoken b [\\x00-`b-\\xff]\ngrammar\nS = ;\n"},
		// Flaws and clashes are not looked for.
		{of(t, "S = a | a b | S ; S = w ;", "-w=x", "S=y"), "skip w x\ntoken S y\ngrammar\nS = a | a b | S ;\nS = w ;\n"},
	} {
		if got, e := defn.Text(x.d); got != x.want || e != api.OK {
			t.Errorf("%+v: got %q, %d, want %q", x.d, got, e, x.want)
		}
	}
}

// many are so many rules: r0, r1, and on, each of its own two bytes.
func many(n int) []api.LexRule {
	l := make([]api.LexRule, n)
	for i := range l {
		l[i] = api.LexRule{Name: "r" + strconv.Itoa(i), Re: string([]byte{'0' + byte(i/10), '0' + byte(i%10)})}
	}
	return l
}

// times are so many alternatives, each of so many times one name.
func times(n, long int) [][]string {
	return slices.Repeat([][]string{slices.Repeat([]string{"a"}, long)}, n)
}

// one is a grammar of one rule.
func one(name string, alts ...[]string) api.Grammar {
	return api.Grammar{Rules: []api.Rule{{Name: name, Alts: alts}}}
}

// P14.2: definitions that have no text: what is wrong with the rules is told ahead of what is wrong with the grammar.
func TestTextRefuses(t *testing.T) {
	goes, none := one("S", nil), api.Grammar{}
	long := one("S", times(1, 31)...)
	for i, x := range []struct {
		d    api.Defn
		want api.Errno
	}{
		{api.Defn{Rules: many(61), G: goes}, api.ErrLong},
		{api.Defn{Rules: many(61), G: none}, api.ErrLong},
		{api.Defn{Rules: rules("=x"), G: goes}, api.ErrArg},
		{api.Defn{Rules: rules("a=x", "-1=y"), G: goes}, api.ErrArg},
		{api.Defn{Rules: rules("a b=x"), G: goes}, api.ErrArg},
		{api.Defn{Rules: rules("a\n=x"), G: goes}, api.ErrArg},
		{api.Defn{Rules: rules("a=x", "-a=y"), G: goes}, api.ErrArg},
		{api.Defn{Rules: rules("a=x", "b=*"), G: goes}, api.ErrRegex},
		{api.Defn{Rules: rules("a=" + strings.Repeat("x", 4097)), G: goes}, api.ErrLong},
		{api.Defn{Rules: rules("a=x" + strings.Repeat("*", 40)), G: goes}, api.ErrDeep},
		{api.Defn{Rules: rules("a=" + strings.Repeat("x", 2000)), G: goes}, api.ErrStates},
		{api.Defn{Rules: rules("a=x", "b=*"), G: none}, api.ErrRegex},
		{api.Defn{Rules: rules("a=x", "b=*"), G: long}, api.ErrRegex},
		{api.Defn{Rules: rules("a=" + strings.Repeat("x", 2000)), G: none}, api.ErrStates},
		{api.Defn{}, api.ErrArg},
		{api.Defn{Rules: rules("a=x"), G: none}, api.ErrArg},
		{api.Defn{Rules: rules("a=x"), G: one("S")}, api.ErrArg},
		{api.Defn{Rules: rules("a=x"), G: one("1", nil)}, api.ErrArg},
		{api.Defn{Rules: rules("a=x"), G: one("S", []string{"a", ""})}, api.ErrArg},
		{api.Defn{Rules: rules("a=x"), G: long}, api.ErrLong},
		{api.Defn{Rules: rules("a=x"), G: one("S", times(31, 0)...)}, api.ErrLong},
		{api.Defn{Rules: rules("a=x"), G: api.Grammar{Rules: slices.Repeat(goes.Rules, 61)}}, api.ErrLong},
		{api.Defn{Rules: rules("a=x"), G: one("S", append(times(31, 0), []string{"1"})...)}, api.ErrArg},
	} {
		if got, e := defn.Text(x.d); got != "" || e != x.want {
			t.Errorf("%d: got %.60q, %d, want %d", i, got, e, x.want)
		}
	}
}

// P14.2: the greatest definition, and one whose text is too long to be read.
func TestTextOfMost(t *testing.T) {
	d := api.Defn{Rules: many(60), G: api.Grammar{Rules: slices.Repeat(one("S", times(30, 30)...).Rules, 60)}}
	g, _ := grammar.Text(d.G)
	want := ""
	for i := range 60 {
		want += fmt.Sprintf("token r%d %02d\n", i, i)
	}
	want += "grammar\n" + g
	if got, e := defn.Text(d); got != want || e != api.OK {
		t.Errorf("got %d bytes, %d, want %d", len(got), e, len(want))
	}
	if _, part, at, e := defn.Read(want); part != api.InText || at != 0 || e != api.ErrLong {
		t.Errorf("got %d, %d, %d", part, at, e)
	}
	d = of(t, "S=;", "a="+strings.Repeat("\x01", 1500))
	if got, e := defn.Text(d); got != "token a "+strings.Repeat(`\x01`, 1500)+"\ngrammar\nS = ;\n" || e != api.OK {
		t.Errorf("got %d bytes, %d", len(got), e)
	}
}

// expressions are what random lexers are made of.
var expressions = []string{"x", "y", "x+", "xy", "y*x", "(x|y)y", "[xyz]", "z", "[^x]", "", ".", " ", " +", "[ \n]+", "z?", "((x))|y", "\n", "[z-z]#", "#"}

// anyDefn is a definition without a flaw in its rules, and perhaps without any.
func anyDefn(r *rand.Rand) api.Defn {
	var d api.Defn
	names := []string{"S", "T", "U"}[:1+r.Intn(3)]
	for i := range r.Intn(5) {
		rule := api.LexRule{Name: string([]byte{'a' + byte(i)}), Re: expressions[r.Intn(len(expressions))], Skip: r.Intn(4) == 0}
		d.Rules = append(d.Rules, rule)
		if !rule.Skip || r.Intn(10) == 0 {
			names = append(names, rule.Name, rule.Name)
		}
	}
	r.Shuffle(len(d.Rules), func(i, j int) { d.Rules[i], d.Rules[j] = d.Rules[j], d.Rules[i] })
	for _, name := range []string{"S", "T", "U"}[:1+r.Intn(3)] {
		alts := make([][]string, 1+r.Intn(3))
		for i := range alts {
			for range r.Intn(4) {
				alts[i] = append(alts[i], names[r.Intn(len(names))])
			}
		}
		d.G.Rules = append(d.G.Rules, api.Rule{Name: name, Alts: alts})
	}
	return d
}

// P14.5: Read of Text is read, and written, as that very text; it comes to the same tables.
func TestReadOfText(t *testing.T) {
	r := rand.New(rand.NewSource(2))
	for range 3000 {
		d := anyDefn(r)
		s, e := defn.Text(d)
		if e != api.OK {
			t.Fatalf("%+v: got %d", d, e)
		}
		back, part, at, e := defn.Read(s)
		if part != 0 || at != 0 || e != api.OK || len(back.Rules) != len(d.Rules) || !grammar.Same(back.G, d.G) {
			t.Fatalf("%+v: %q: got %+v, %d, %d, %d", d, s, back, part, at, e)
		}
		for i, rule := range back.Rules {
			was, _, _ := regex.Parse(d.Rules[i].Re)
			is, _, e := regex.Parse(rule.Re)
			if rule.Name != d.Rules[i].Name || rule.Skip != d.Rules[i].Skip || !regex.Same(was, is) || e != api.OK {
				t.Fatalf("%+v: %q: got %+v", d, s, back)
			}
		}
		if again, e := defn.Text(back); again != s || e != api.OK {
			t.Fatalf("%q: got %q, %d", s, again, e)
		}
		if was, is := built(d), compiled(s); was != is {
			t.Fatalf("%q: got %s, want %s", s, is, was)
		}
	}
}

// P14.5: where the text is just short enough.
func TestReadOfLongestText(t *testing.T) {
	d := of(t, "S = a ;", "a="+strings.Repeat("[ab]", 1000), "b="+strings.Repeat("c", 62))
	s, e := defn.Text(d)
	if len(s) != api.MaxText || e != api.OK {
		t.Fatalf("got %d bytes, %d", len(s), e)
	}
	back, _, _, e := defn.Read(s)
	if again, _ := defn.Text(back); again != s || e != api.OK {
		t.Errorf("got %d bytes, %d", len(again), e)
	}
}

// R2, R5: definitions that were handed in stay what they are, and the same comes again.
func TestTextChangesNothing(t *testing.T) {
	fresh := func() api.Defn { return of(t, "S = a S b | ;", "b=y*", "-w=[ ]", "a=(x)") }
	d := fresh()
	s, _ := defn.Text(d)
	again, e := defn.Text(d)
	if again != s || e != api.OK || !same(d, fresh()) {
		t.Errorf("got %q, then %q, of %+v", s, again, d)
	}
}
