package wire

import (
	"math/bits"

	"quincunx/api"
	"quincunx/nest"
)

const (
	numLen     = 8   // bytes of a number
	groupLen   = 7   // bits of a count's group
	groupMore  = 128 // says that another group follows
	firstBytes = 1   // the byte that says which kind an item is of
)

// Encode writes an item that may be.
func Encode(v api.Item) ([]byte, api.Errno) {
	if e := Check(v); e != api.OK {
		return nil, e
	}
	var out []byte
	for _, x := range nest.All(v, items) {
		out = appendHead(out, x)
	}
	return out, api.OK
}

// Read reads the item at b's beginning, and tells how many bytes it has.
func Read(b []byte) (api.Item, int, api.Errno) {
	return readItem(b, 0)
}

// Decode reads the item that is all of b.
func Decode(b []byte) (api.Item, api.Errno) {
	v, n, e := Read(b)
	if e != api.OK {
		return api.Item{}, e
	}
	if n < len(b) {
		return api.Item{}, api.ErrForm
	}
	return v, api.OK
}

// appendHead appends an item's bytes up to those of its list's items.
func appendHead(out []byte, v api.Item) []byte {
	out = append(out, byte(v.Kind))
	switch v.Kind {
	case api.Num:
		var b [numLen]byte
		putHigh(b[:], uint64(v.N))
		return append(out, b[:]...)
	case api.Text:
		return append(appendCount(out, len(v.S)), v.S...)
	}
	return appendCount(out, len(v.L))
}

// appendCount appends a count's groups, the highest one first.
func appendCount(out []byte, n int) []byte {
	groups := max(1, (bits.Len(uint(n))+groupLen-1)/groupLen)
	for i := range groups {
		c := byte(n>>(groupLen*(groups-1-i))) &^ groupMore
		if i < groups-1 {
			c |= groupMore
		}
		out = append(out, c)
	}
	return out
}

// readItem reads the item at b's beginning, which stands in so many others.
func readItem(b []byte, around int) (api.Item, int, api.Errno) {
	if len(b) == 0 {
		return api.Item{}, 0, api.ErrShort
	}
	if around == api.MaxDeep {
		return api.Item{}, 0, api.ErrDeep
	}
	var v api.Item
	var n int
	var e api.Errno
	switch b[0] {
	case api.Num:
		v, n, e = readNum(b[firstBytes:])
	case api.Text:
		v, n, e = readText(b[firstBytes:])
	case api.List:
		v, n, e = readList(b[firstBytes:], around)
	default:
		e = api.ErrForm
	}
	if e != api.OK {
		return api.Item{}, 0, e
	}
	return v, firstBytes + n, api.OK
}

func readNum(b []byte) (api.Item, int, api.Errno) {
	if len(b) < numLen {
		return api.Item{}, 0, api.ErrShort
	}
	return api.Item{Kind: api.Num, N: int64(high(b[:numLen]))}, numLen, api.OK
}

func readText(b []byte) (api.Item, int, api.Errno) {
	long, at, e := readCount(b)
	if e != api.OK {
		return api.Item{}, 0, e
	}
	if len(b)-at < long {
		return api.Item{}, 0, api.ErrShort
	}
	return api.Item{Kind: api.Text, S: string(b[at : at+long])}, at + long, api.OK
}

// readList reads a list behind its first byte. Its count may be far more than there are bytes, so no room is made by it.
func readList(b []byte, around int) (api.Item, int, api.Errno) {
	count, at, e := readCount(b)
	if e != api.OK {
		return api.Item{}, 0, e
	}
	v := api.Item{Kind: api.List}
	for range count {
		x, n, e := readItem(b[at:], around+1)
		if e != api.OK {
			return api.Item{}, 0, e
		}
		v.L = append(v.L, x)
		at += n
	}
	return v, at, api.OK
}

// readCount reads the count at b's beginning, and tells how many bytes it has.
// A group that says that another one follows tells already that the count is not in its one form (it is 0, and the first), or will be too great.
func readCount(b []byte) (int, int, api.Errno) {
	n := 0
	for i := range len(b) {
		n = n<<groupLen | int(b[i]&^groupMore)
		if b[i] < groupMore {
			return n, i + 1, api.OK
		}
		if n == 0 || n<<groupLen > maxCount {
			return 0, 0, api.ErrForm
		}
	}
	return 0, 0, api.ErrShort
}
