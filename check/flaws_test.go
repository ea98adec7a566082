package check_test

import (
	"fmt"
	"math/rand"
	"slices"
	"strconv"
	"strings"
	"testing"

	"quincunx/api"
	"quincunx/check"
	"quincunx/grammar"
)

// rule makes a rule of its name and its alternatives' names, with blanks between.
func rule(name string, alts ...string) api.Rule {
	r := api.Rule{Name: name}
	for _, s := range alts {
		r.Alts = append(r.Alts, strings.Fields(s))
	}
	return r
}

func of(l ...api.Rule) api.Grammar { return api.Grammar{Rules: l} }

// read reads a grammar's text, which must be one.
func read(t *testing.T, s string) api.Grammar {
	t.Helper()
	g, at, e := grammar.Parse(s)
	if e != api.OK {
		t.Fatalf("%q: %d at %d", s, e, at)
	}
	return g
}

// told writes flaws so that they can be held against what is wanted.
func told(l []api.Flaw) string {
	kinds := map[int]string{api.Double: "Double", api.Unknown: "Unknown", api.Barren: "Barren", api.Idle: "Idle"}
	var out []string
	for _, x := range l {
		out = append(out, kinds[x.Kind]+" "+x.Name)
	}
	return strings.Join(out, ", ")
}

// P8.1: flaws of each kind, each alone and with others.
func TestFlaws(t *testing.T) {
	for _, x := range []struct{ s, tokens, want string }{
		{"S = a S | A ;", "a", "Unknown A, Barren S"},
		{"S = a ; B = b ;", "a", "Unknown b, Barren B, Idle B"},
		// none
		{"S = a S b | ;", "a b", ""},
		{"S = ;", "", ""},
		{"S = ;", "a b c", ""}, // tokens need not stand anywhere
		{"S = A A ; A = S | a ;", "a", ""},
		{"S = A ; A = B ; B = C ; C = | S A B C ;", "", ""},
		{"S = B ; B = C ; C = c ;", "c", ""},
		{"S = s ; ", "s", ""}, // s is not S
		// Double
		{"S = a ; S = b ;", "a b", "Double S"},
		{"S = a ; S = a ; S = a ;", "a", "Double S"},
		{"S = a ; a = ;", "a", "Double a"},
		{"a = a ;", "a", "Double a"},
		{"S = a ; a = ; a = ;", "a", "Double a"},
		{"S = a S ; S = ; a = S ;", "a", "Double S, Double a"},
		{"a = S ; S = a ; S = a ;", "a", "Double a, Double S"},
		{"S = A B ; A = a ; B = a ; B = a ; A = a ;", "a", "Double B, Double A"}, // at the second one, not at the first
		{"S = a ; T = a | T ; S = T ;", "a S", "Double S"},
		{"S = a ;", "a a", ""}, // tokens may stand twice
		{"S = a b ;", "a b b a", ""},
		// Unknown
		{"S = b | ;", "a", "Unknown b"},
		{"S = | z y z | x y a ;", "a", "Unknown z, Unknown y, Unknown x"},
		{"S = | A y ; A = | x A ; A = z y x ;", "", "Double A, Unknown y, Unknown x, Unknown z"},
		{"S = | T ; T = | u ; ", "", "Unknown u"},
		{"S = | A ;", "a", "Unknown A"},
		{"S = ; B = | c ;", "", "Unknown c, Idle B"},
		// Barren
		{"S = S ;", "", "Barren S"},
		{"S = a S ;", "a", "Barren S"},
		{"S = a S | a ;", "a", ""},
		{"S = A ; A = S ;", "a", "Barren S, Barren A"},
		{"S = A | a ; A = S A ;", "a", "Barren A"},
		{"S = A | a ; A = A S | S A | A A ;", "a", "Barren A"},
		{"S = A ; A = | A ;", "a", ""},
		{"S = A B | C ; A = B A ; B = C A | a ; C = A | C ;", "a", "Barren S, Barren A, Barren C"},
		{"S = A | a ; A = b a ;", "a", "Unknown b, Barren A"},
		{"S = A | a ; A = a b a ;", "a", "Unknown b, Barren A"},
		{"S = S ; S = a ;", "a", "Double S"},                     // one rule of that name is enough
		{"S = A a ; A = A ; A = B ; B = b ;", "a b", "Double A"}, // the second one too
		{"S = A | b ; A = A ; A = A a ;", "a b", "Double A, Barren A"},
		{"S = a ; a = a b ;", "a", "Double a, Unknown b"}, // a token's name
		{"S = T ; T = a a a a a U ; U = V ; V = W W ; W = T | a ;", "a", ""},
		// Idle
		{"S = a ; B = a ;", "a", "Idle B"},
		{"S = a ; B = S ;", "a", "Idle B"},
		{"S = a ; B = B a | ;", "a", "Idle B"},
		{"S = a ; B = C ; C = B ;", "a", "Barren B, Barren C, Idle B, Idle C"},
		{"S = a ; B = C ; C = B | ;", "a", "Idle B, Idle C"},
		{"S = a | D ; B = ; C = ; D = | C ;", "a", "Idle B"},
		{"B = a ; S = B ;", "a", "Idle S"}, // the first rule is where one begins, whatever its name
		{"S = a | B C ; B = B ; C = a ;", "a", "Barren B"},
		{"S = a | x C ; C = a ;", "a", "Unknown x"},
		{"S = a ; S = B ; B = a ;", "a", "Double S"},         // by the second rule of that name
		{"S = T ; T = a ; T = B ; B = a ;", "a", "Double T"}, // likewise
		{"S = a ; a = B ; B = ;", "a", "Double a"},           // by a token's name
		{"S = a ; B = ; B = ; C = ;", "a", "Double B, Idle B, Idle C"},
		{"S = a ; B = C ; C = ; B = C ;", "a", "Double B, Idle B, Idle C"},
		{"a = a ; B = b ;", "a b", "Double a, Idle B"},
		// all of them
		{"S = x S ; b = y ; S = B x ; B = C ; D = z | ; E = E ; D = ;", "b", "Double b, Double S, Double D, Unknown x, Unknown y, Unknown C, Unknown z, Barren S, Barren B, Barren E, Idle b, Idle D, Idle E"},
	} {
		if got := told(check.Flaws(read(t, x.s), strings.Fields(x.tokens))); got != x.want {
			t.Errorf("%q, %q: got %q, want %q", x.s, x.tokens, got, x.want)
		}
	}
}

// P8.1: of grammars that may not be, too.
func TestFlawsOfOthers(t *testing.T) {
	many := of(slices.Repeat([]api.Rule{rule("S", slices.Repeat([]string{"a b"}, 100)...)}, 100)...)
	for _, x := range []struct {
		name   string
		g      api.Grammar
		tokens []string
		want   string
	}{
		{"no rule", of(), nil, ""},
		{"no rule, and tokens", of(), []string{"a", "1", "a"}, ""},
		{"an empty list of rules", api.Grammar{Rules: []api.Rule{}}, []string{}, ""},
		{"no alternative", of(rule("S")), nil, "Barren S"},
		{"no alternative, in one of two rules", of(rule("S"), rule("S", "")), nil, "Double S"},
		{"an empty list of alternatives", of(api.Rule{Name: "S", Alts: [][]string{}}), nil, "Barren S"},
		{"an empty list of names", of(api.Rule{Name: "S", Alts: [][]string{{}}}), nil, ""},
		{"what is no name", of(rule("1", "é +"), rule("é", "-", "")), []string{"+"}, "Unknown -"},
		{"empty texts", of(api.Rule{Alts: [][]string{{""}}}), nil, "Barren "},
		{"an empty text among tokens", of(api.Rule{Alts: [][]string{{""}}}), []string{""}, "Double "},
		{"an empty text in an alternative", of(api.Rule{Name: "S", Alts: [][]string{{""}, {}}}), nil, "Unknown "},
		{"a blank in a name", of(api.Rule{Name: "S", Alts: [][]string{{"a b"}}}), []string{"a", "b"}, "Unknown a b, Barren S"},
		{"too long", many, []string{"a"}, "Double S, Unknown b, Barren S"},
		{"a long name", of(rule("S", strings.Repeat("n", 1<<20))), []string{strings.Repeat("n", 1<<20)}, ""},
	} {
		if got := told(check.Flaws(x.g, x.tokens)); got != x.want {
			t.Errorf("%s: got %q, want %q", x.name, got, x.want)
		}
	}
}

// anyGrammar is a grammar of some rules and alternatives, most of them of names that are tokens' or rules'.
func anyGrammar(r *rand.Rand, most int) (api.Grammar, []string) {
	names := []string{"S", "T", "U", "V", "W"}[:1+r.Intn(5)]
	tokens := []string{"a", "b", "c"}[:r.Intn(4)]
	within := slices.Concat(names, names, tokens)
	if r.Intn(4) == 0 {
		within = append(within, "x", "y")
	}
	var g api.Grammar
	for _, name := range names {
		if r.Intn(8) == 0 {
			name = []string{"S", "T", "a"}[r.Intn(3)]
		}
		one := api.Rule{Name: name}
		for range 1 + r.Intn(most) {
			var alt []string
			for range r.Intn(4) {
				alt = append(alt, within[r.Intn(len(within))])
			}
			one.Alts = append(one.Alts, alt)
		}
		g.Rules = append(g.Rules, one)
	}
	return g, tokens
}

// fertileByWords goes through all rules till nothing is found any more.
func fertileByWords(g api.Grammar, tokens []string) map[string]bool {
	found := map[string]bool{}
	for _, name := range tokens {
		found[name] = true
	}
	for range g.Rules {
		for _, rule := range g.Rules {
			for _, alt := range rule.Alts {
				if !slices.ContainsFunc(alt, func(name string) bool { return !found[name] }) {
					found[rule.Name] = true
				}
			}
		}
	}
	return found
}

// ledByWords goes through all rules till nothing is found any more.
func ledByWords(g api.Grammar) map[string]bool {
	found := map[string]bool{g.Rules[0].Name: true}
	for range g.Rules {
		for _, rule := range g.Rules {
			for _, alt := range rule.Alts {
				for _, name := range alt {
					found[name] = found[name] || found[rule.Name]
				}
			}
		}
	}
	return found
}

// flawsByWords makes a list of each kind, as the chapter's words say, and then takes out what is there again.
func flawsByWords(g api.Grammar, tokens []string) []api.Flaw {
	var lists [5][]string
	fertile, led := fertileByWords(g, tokens), ledByWords(g)
	for i, x := range g.Rules {
		isRule := func(name string) func(api.Rule) bool { return func(y api.Rule) bool { return y.Name == name } }
		if slices.Contains(tokens, x.Name) || slices.ContainsFunc(g.Rules[:i], isRule(x.Name)) {
			lists[api.Double] = append(lists[api.Double], x.Name)
		}
		for _, alt := range x.Alts {
			for _, name := range alt {
				if !slices.Contains(tokens, name) && !slices.ContainsFunc(g.Rules, isRule(name)) {
					lists[api.Unknown] = append(lists[api.Unknown], name)
				}
			}
		}
		if !fertile[x.Name] {
			lists[api.Barren] = append(lists[api.Barren], x.Name)
		}
		if !led[x.Name] {
			lists[api.Idle] = append(lists[api.Idle], x.Name)
		}
	}
	var out []api.Flaw
	for kind, l := range lists {
		for i, name := range l {
			if !slices.Contains(l[:i], name) {
				out = append(out, api.Flaw{Kind: kind, Name: name})
			}
		}
	}
	return out
}

// P8.1: many grammars, against the chapter's words.
func TestFlawsByWords(t *testing.T) {
	r := rand.New(rand.NewSource(1))
	count := map[int]int{}
	for range 20000 {
		g, tokens := anyGrammar(r, 3)
		got := check.Flaws(g, tokens)
		if want := flawsByWords(g, tokens); !slices.Equal(got, want) {
			t.Fatalf("%v, %v: got %q, want %q", g, tokens, told(got), told(want))
		}
		if len(got) == 0 {
			count[0]++
		}
		for _, x := range got {
			count[x.Kind]++
		}
	}
	for kind := range 5 {
		if count[kind] < 500 {
			t.Errorf("%d of the kind %d", count[kind], kind)
		}
	}
}

// chain is rules each of which leads to the next one, the last one to a token; turned, the last rule is written first but for the first one.
func chain(n int, turned bool) api.Grammar {
	var l []api.Rule
	for i := range n {
		l = append(l, api.Rule{Name: "r" + strconv.Itoa(i), Alts: [][]string{{"r" + strconv.Itoa(i+1)}}})
	}
	l[n-1].Alts[0][0] = "a"
	if turned {
		slices.Reverse(l[1:])
	}
	return of(l...)
}

// P8.1, R1: how long it takes does not grow with the square of what there is.
func TestFlawsOfManyRules(t *testing.T) {
	const n = 100000
	wide := of(rule("S", strings.Repeat("a ", n)), rule("T", slices.Repeat([]string{"S T"}, n)...))
	lone := chain(n, true)
	lone.Rules = append(lone.Rules, lone.Rules[0])[1:]
	for _, x := range []struct {
		name   string
		g      api.Grammar
		tokens []string
		want   int
	}{
		{"a chain", chain(n, false), []string{"a"}, 0},
		{"a turned one", chain(n, true), []string{"a"}, 0},
		{"to a token that is not there", chain(n, true), nil, 1 + n},
		{"its end first", lone, []string{"a"}, n - 1},
		{"wide rules", wide, []string{"a"}, 2},
		{"many tokens", of(rule("S", "a")), slices.Repeat([]string{"a", "b"}, n), 0},
	} {
		if got := check.Flaws(x.g, x.tokens); len(got) != x.want {
			t.Errorf("%s: got %d flaws, want %d", x.name, len(got), x.want)
		}
	}
}

// R2, R5: what was handed in stays what it is, what was told stays too, and the same comes again.
func TestFlawsChangeNothing(t *testing.T) {
	r := rand.New(rand.NewSource(2))
	for range 500 {
		g, tokens := anyGrammar(r, 3)
		was := fmt.Sprint(g, tokens)
		first := check.Flaws(g, tokens)
		want := told(first)
		again := check.Flaws(g, tokens)
		if fmt.Sprint(g, tokens) != was || told(again) != want {
			t.Fatalf("%s: now %v, %v; got %q, then %q", was, g, tokens, want, told(again))
		}
		for i := range again {
			again[i] = api.Flaw{}
		}
		g.Rules[0].Name = "other"
		if told(first) != want {
			t.Fatalf("%s: got %q, it became %q", was, want, told(first))
		}
	}
}
