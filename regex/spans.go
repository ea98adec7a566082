package regex

import "quincunx/api"

// Spans puts spans in order.
func Spans(l []api.Span) []api.Span {
	return setOf(l...).spans()
}

// inOrder tells whether spans are in order.
func inOrder(l []api.Span) bool {
	for i, s := range l {
		if s.Lo > s.Hi || i > 0 && int(s.Lo) < int(l[i-1].Hi)+2 {
			return false
		}
	}
	return true
}

// byteSet is a set of bytes: a bit for each.
type byteSet [4]uint64

func setOf(l ...api.Span) byteSet {
	var b byteSet
	for _, s := range l {
		for c := int(s.Lo); c <= int(s.Hi); c++ {
			b[c/64] |= 1 << (c % 64)
		}
	}
	return b
}

func (b *byteSet) has(c int) bool {
	return b[c/64]>>(c%64)&1 == 1
}

// others are all bytes that are not in the set.
func (b byteSet) others() byteSet {
	for i := range b {
		b[i] = ^b[i]
	}
	return b
}

// spans are the set's bytes as spans in order.
func (b byteSet) spans() []api.Span {
	var out []api.Span
	for c := range 256 {
		switch {
		case !b.has(c):
		case c > 0 && b.has(c-1):
			out[len(out)-1].Hi = byte(c)
		default:
			out = append(out, api.Span{Lo: byte(c), Hi: byte(c)})
		}
	}
	return out
}
