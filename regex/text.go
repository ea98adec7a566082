package regex

import (
	"strings"

	"quincunx/api"
)

const digits = "0123456789abcdef"

// Text writes an expression so that Parse reads it.
func Text(r api.Re) (string, api.Errno) {
	if e := Check(r); e != api.OK {
		return "", e
	}
	return string(appendText(nil, r)), api.OK
}

func appendText(out []byte, r api.Re) []byte {
	switch r.Kind {
	case api.Empty:
		return append(out, "()"...)
	case api.Set:
		return appendSet(out, r.Set)
	}
	for i, x := range r.L {
		if r.Kind == api.Alt && i > 0 {
			out = append(out, '|')
		}
		out = appendPart(out, x, r.Kind)
	}
	if r.Kind >= api.Star {
		out = append(out, repeats[r.Kind-api.Star])
	}
	return out
}

// appendPart appends the text of a part of an expression of the kind around.
func appendPart(out []byte, r api.Re, around int) []byte {
	if r.Kind == api.Alt || r.Kind == api.Cat && around != api.Alt {
		return append(appendText(append(out, '('), r), ')')
	}
	return appendText(out, r)
}

func appendSet(out []byte, l []api.Span) []byte {
	if len(l) == 1 && l[0].Lo == l[0].Hi {
		return appendByte(out, l[0].Lo)
	}
	out = append(out, '[')
	for _, s := range l {
		out = appendByte(out, s.Lo)
		if s.Hi-s.Lo > 1 {
			out = append(out, '-')
		}
		if s.Hi > s.Lo {
			out = appendByte(out, s.Hi)
		}
	}
	return append(out, ']')
}

func appendByte(out []byte, c byte) []byte {
	switch {
	case c == '\n':
		return append(out, `\n`...)
	case c == '\t':
		return append(out, `\t`...)
	case c == '\r':
		return append(out, `\r`...)
	case strings.IndexByte(special, c) >= 0:
		return append(out, '\\', c)
	case ' ' <= c && c <= '~':
		return append(out, c)
	}
	return append(out, '\\', 'x', digits[c>>4], digits[c&15])
}
