package regex

import (
	"strings"

	"quincunx/api"
)

// fault is the place of a byte that does not go: reading gives up with it.
type fault int

// reader is a text, and the place of the byte that comes next.
type reader struct {
	s  string
	at int
}

// Parse reads the expression that is all of s; beside ErrRegex it tells the place.
func Parse(s string) (r api.Re, at int, e api.Errno) {
	if len(s) > api.MaxText {
		return api.Re{}, 0, api.ErrLong
	}
	defer func() {
		switch x := recover().(type) {
		case nil:
		case fault:
			r, at, e = api.Re{}, int(x), api.ErrRegex
		default:
			panic(x)
		}
	}()
	p := reader{s: s}
	r = p.alternatives()
	if p.at < len(s) { // a ) that closes nothing
		panic(fault(p.at))
	}
	if Check(r) != api.OK {
		return api.Re{}, 0, api.ErrDeep
	}
	return r, 0, api.OK
}

// alternatives reads up to the end, or to a ).
func (p *reader) alternatives() api.Re {
	l := []api.Re{p.alternative()}
	for p.take('|') {
		l = append(l, p.alternative())
	}
	return joined(api.Alt, l)
}

func (p *reader) alternative() api.Re {
	var l []api.Re
	for p.at < len(p.s) && p.s[p.at] != '|' && p.s[p.at] != ')' {
		l = append(l, p.piece())
	}
	return joined(api.Cat, l)
}

// joined is what several expressions are together: none is Empty, one alone is itself.
func joined(kind int, l []api.Re) api.Re {
	switch len(l) {
	case 0:
		return api.Re{Kind: api.Empty}
	case 1:
		return l[0]
	}
	return api.Re{Kind: kind, L: l}
}

func (p *reader) piece() api.Re {
	r := p.atom()
	for p.at < len(p.s) {
		i := strings.IndexByte(repeats, p.s[p.at])
		if i < 0 {
			break
		}
		p.at++
		r = api.Re{Kind: api.Star + i, L: []api.Re{r}}
	}
	return r
}

func (p *reader) atom() api.Re {
	switch {
	case p.take('('):
		r := p.alternatives()
		if !p.take(')') {
			panic(fault(p.at))
		}
		return r
	case p.take('.'):
		return ofSet(setOf(api.Span{Lo: '\n', Hi: '\n'}).others())
	case p.take('['):
		return ofSet(p.class())
	}
	c := p.letter(outside)
	return ofSet(setOf(api.Span{Lo: c, Hi: c}))
}

func ofSet(b byteSet) api.Re {
	return api.Re{Kind: api.Set, Set: b.spans()}
}

// class reads what stands behind a [, and its ].
func (p *reader) class() byteSet {
	not := p.take('^')
	l := []api.Span{p.item()}
	for !p.take(']') {
		l = append(l, p.item())
	}
	b := setOf(l...)
	if !not {
		return b
	}
	b = b.others()
	if b == (byteSet{}) {
		panic(fault(p.at - 1))
	}
	return b
}

// item reads a byte, or two with a - between.
func (p *reader) item() api.Span {
	lo := p.letter(special)
	if !p.take('-') {
		return api.Span{Lo: lo, Hi: lo}
	}
	at := p.at
	hi := p.letter(special)
	if hi < lo {
		panic(fault(at))
	}
	return api.Span{Lo: lo, Hi: hi}
}

// letter reads a byte that stands for itself, which those of barred do not, or is told by an escape.
func (p *reader) letter(barred string) byte {
	c := p.next()
	if c == '\\' {
		return p.escape()
	}
	if strings.IndexByte(barred, c) >= 0 {
		panic(fault(p.at - 1))
	}
	return c
}

// escape reads what stands behind a \.
func (p *reader) escape() byte {
	c := p.next()
	switch c {
	case 'n':
		return '\n'
	case 't':
		return '\t'
	case 'r':
		return '\r'
	case 'x':
		high := p.digit()
		return high<<4 | p.digit()
	}
	if strings.IndexByte(special, c) < 0 {
		panic(fault(p.at - 1))
	}
	return c
}

func (p *reader) digit() byte {
	c := p.next()
	switch {
	case '0' <= c && c <= '9':
		return c - '0'
	case 'a' <= c && c <= 'f':
		return c - 'a' + 10
	case 'A' <= c && c <= 'F':
		return c - 'A' + 10
	}
	panic(fault(p.at - 1))
}

// next reads a byte, whichever it is.
func (p *reader) next() byte {
	if p.at == len(p.s) {
		panic(fault(p.at))
	}
	p.at++
	return p.s[p.at-1]
}

// take reads the byte c, if it comes next, and tells whether it did.
func (p *reader) take(c byte) bool {
	if p.at == len(p.s) || p.s[p.at] != c {
		return false
	}
	p.at++
	return true
}
