package wire_test

import (
	"bytes"
	"math/rand"
	"slices"
	"strings"
	"testing"

	"quincunx/api"
	"quincunx/wire"
)

// lists is the bytes of so many lists of one item, one in the other, and of what stands in the innermost one.
func lists(n int, in ...byte) []byte {
	return append(bytes.Repeat([]byte{3, 1}, n), in...)
}

// P1.2: items' bytes, written, and read with something behind them.
func TestBytes(t *testing.T) {
	for _, x := range []struct {
		name string
		v    api.Item
		b    []byte
	}{
		{"num 0", num(0), []byte{1, 0, 0, 0, 0, 0, 0, 0, 0}},
		{"num 1", num(1), []byte{1, 0, 0, 0, 0, 0, 0, 0, 1}},
		{"num -1", num(-1), []byte{1, 255, 255, 255, 255, 255, 255, 255, 255}},
		{"num, each byte another one", num(0x0102030405060708), []byte{1, 1, 2, 3, 4, 5, 6, 7, 8}},
		{"num, the greatest", num(1<<63 - 1), []byte{1, 127, 255, 255, 255, 255, 255, 255, 255}},
		{"num, the least", num(-1 << 63), []byte{1, 128, 0, 0, 0, 0, 0, 0, 0}},
		{"text without bytes", text(""), []byte{2, 0}},
		{"text ab", text("ab"), []byte{2, 2, 97, 98}},
		{"text of any bytes", text("\x00\x03\xff"), []byte{2, 3, 0, 3, 255}},
		{"list of none", list(), []byte{3, 0}},
		{"list of two", list(text("b"), text("a")), []byte{3, 2, 2, 1, 98, 2, 1, 97}},
		{"lists in lists", list(list(list()), text("x"), list(text(""))), []byte{3, 3, 3, 1, 3, 0, 2, 1, 120, 3, 1, 2, 0}},
		{"40 deep", within(text("x"), 39), lists(39, 2, 1, 120)},
	} {
		b, e := wire.Encode(x.v)
		if !bytes.Equal(b, x.b) || e != api.OK {
			t.Errorf("%s: Encode: got %v, %d", x.name, b, e)
		}
		for _, behind := range [][]byte{nil, {7}, {1, 2, 3, 0, 255}} {
			v, n, e := wire.Read(append(slices.Clone(x.b), behind...))
			if !wire.Same(v, x.v) || n != len(x.b) || e != api.OK {
				t.Errorf("%s, %v behind it: Read: got %v, %d, %d", x.name, behind, v, n, e)
			}
		}
		if v, e := wire.Decode(x.b); !wire.Same(v, x.v) || e != api.OK {
			t.Errorf("%s: Decode: got %v, %d", x.name, v, e)
		}
	}
}

// P1.2: counts' bytes, of texts and lists.
func TestCounts(t *testing.T) {
	for _, x := range []struct {
		n int
		b []byte
	}{
		{0, []byte{0}}, {1, []byte{1}}, {127, []byte{127}},
		{128, []byte{129, 0}}, {129, []byte{129, 1}}, {255, []byte{129, 127}}, {256, []byte{130, 0}}, {300, []byte{130, 44}},
		{16383, []byte{255, 127}}, {16384, []byte{129, 128, 0}}, {1 << 20, []byte{192, 128, 0}},
		{1<<21 - 1, []byte{255, 255, 127}}, {1 << 21, []byte{129, 128, 128, 0}}, {1<<21 + 130, []byte{129, 128, 129, 2}},
	} {
		s := strings.Repeat("x", x.n)
		want := append(append([]byte{2}, x.b...), s...)
		b, e := wire.Encode(text(s))
		if !bytes.Equal(b, want) || e != api.OK {
			t.Errorf("text of %d: got %v, %d", x.n, b[:min(6, len(b))], e)
		}
		if v, n, e := wire.Read(want); !wire.Same(v, text(s)) || n != len(want) || e != api.OK {
			t.Errorf("text of %d: read %d of %d bytes, %d", x.n, n, len(want), e)
		}
		if x.n > 20000 {
			continue
		}
		l := list(slices.Repeat([]api.Item{text("")}, x.n)...)
		want = append(append([]byte{3}, x.b...), bytes.Repeat([]byte{2, 0}, x.n)...)
		b, e = wire.Encode(l)
		if !bytes.Equal(b, want) || e != api.OK {
			t.Errorf("list of %d: got %v, %d", x.n, b[:min(6, len(b))], e)
		}
		if v, n, e := wire.Read(want); !wire.Same(v, l) || n != len(want) || e != api.OK {
			t.Errorf("list of %d: read %d of %d bytes, %d", x.n, n, len(want), e)
		}
	}
}

// P1.2: of what Check refuses there are no bytes.
func TestEncodeRefuses(t *testing.T) {
	for _, x := range []struct {
		name string
		v    api.Item
		want api.Errno
	}{
		{"nothing", api.Item{}, api.ErrArg},
		{"kind 4", api.Item{Kind: 4}, api.ErrArg},
		{"kind 258", api.Item{Kind: 258, S: "x"}, api.ErrArg},
		{"num with S", api.Item{Kind: api.Num, S: "x"}, api.ErrArg},
		{"num with L", api.Item{Kind: api.Num, L: []api.Item{num(1)}}, api.ErrArg},
		{"text with N", api.Item{Kind: api.Text, N: 1}, api.ErrArg},
		{"list with S", api.Item{Kind: api.List, S: "x"}, api.ErrArg},
		{"the last one", list(num(1), text("x"), api.Item{}), api.ErrArg},
		{"too deep", within(list(), 40), api.ErrDeep},
		{"too deep, and what may not be", list(within(list(), 40), api.Item{}), api.ErrArg},
	} {
		if b, e := wire.Encode(x.v); len(b) != 0 || e != x.want {
			t.Errorf("%s: got %v, %d, want %d", x.name, b, e, x.want)
		}
	}
}

// P1.2: what is met first, byte by byte, is what is told; and nothing else beside it.
func TestReadRefuses(t *testing.T) {
	for _, x := range []struct {
		name string
		b    []byte
		want api.Errno
	}{
		{"no byte", nil, api.ErrShort},
		{"first byte 0", []byte{0}, api.ErrForm},
		{"first byte 4", []byte{4, 0}, api.ErrForm},
		{"first byte 129", []byte{129, 0}, api.ErrForm},
		{"first byte 255", []byte{255}, api.ErrForm},
		{"num alone", []byte{1}, api.ErrShort},
		{"num of 7 bytes", []byte{1, 0, 0, 0, 0, 0, 0, 0}, api.ErrShort},
		{"text without count", []byte{2}, api.ErrShort},
		{"text without its byte", []byte{2, 1}, api.ErrShort},
		{"text with one byte less", []byte{2, 3, 97, 98}, api.ErrShort},
		{"count cut", []byte{2, 129}, api.ErrShort},
		{"count cut behind a group of 0", []byte{2, 129, 128}, api.ErrShort},
		{"count begins with 0", []byte{2, 128, 1, 97}, api.ErrForm},
		{"count begins with 0, cut", []byte{2, 128}, api.ErrForm},
		{"count 0 in two groups", []byte{3, 128, 0}, api.ErrForm},
		{"count 2^31 - 1", []byte{2, 135, 255, 255, 255, 127}, api.ErrShort},
		{"count 2^31 - 1 of a list", []byte{3, 135, 255, 255, 255, 127}, api.ErrShort},
		{"count 2^31 - 1, cut", []byte{2, 135, 255, 255, 255}, api.ErrShort},
		{"count 2^31", []byte{2, 136, 128, 128, 128, 0}, api.ErrForm},
		{"count 2^31 of a list", []byte{3, 136, 128, 128, 128, 0, 2, 0}, api.ErrForm},
		{"the fourth group tells of 2^31", []byte{2, 136, 128, 128, 128}, api.ErrForm},
		{"the third group does not", []byte{2, 136, 128, 128}, api.ErrShort},
		{"four groups, the greatest", []byte{2, 255, 255, 255, 127}, api.ErrShort},
		{"the fourth group tells of 2^35 - 1", []byte{2, 255, 255, 255, 255}, api.ErrForm},
		{"the fifth group tells of a sixth one", []byte{2, 129, 128, 128, 128, 128}, api.ErrForm},
		{"a count of 64 bits and more", append([]byte{3}, bytes.Repeat([]byte{129}, 30)...), api.ErrForm},
		{"a count that turns round to 1", []byte{3, 130, 128, 128, 128, 128, 128, 128, 128, 128, 1, 2, 0}, api.ErrForm},
		{"list without count", []byte{3}, api.ErrShort},
		{"list without its item", []byte{3, 1}, api.ErrShort},
		{"list without its second one", []byte{3, 2, 2, 0}, api.ErrShort},
		{"list of a cut num", []byte{3, 1, 1, 0}, api.ErrShort},
		{"list of what is none", []byte{3, 1, 9}, api.ErrForm},
		{"list, the second one is none", []byte{3, 3, 2, 0, 0, 2, 0}, api.ErrForm},
		{"cut ahead of what is none", []byte{3, 2, 2, 5, 9}, api.ErrShort},
		{"none ahead of what is cut", []byte{3, 2, 9, 2, 5}, api.ErrForm},
		{"41 deep", lists(40, 3, 0), api.ErrDeep},
		{"41 deep, a num", lists(40, 1, 0, 0, 0, 0, 0, 0, 0, 1), api.ErrDeep},
		{"41 deep, a cut one", lists(40, 1), api.ErrDeep},
		{"41 deep, what is none", lists(40, 9), api.ErrDeep},
		{"41 deep, no byte", lists(40), api.ErrShort},
		{"60 deep", lists(60, 3, 0), api.ErrDeep},
		{"40 deep, what is none", lists(39, 9), api.ErrForm},
		{"40 deep, a count that begins with 0", lists(39, 3, 128, 1, 3, 0), api.ErrForm},
		{"none ahead of what is too deep", append([]byte{3, 2, 9}, lists(60, 3, 0)...), api.ErrForm},
		{"cut ahead of what is too deep", append([]byte{3, 2, 2, 135, 255, 255, 255, 127}, lists(60, 3, 0)...), api.ErrShort},
		{"too deep ahead of what is none", append(append([]byte{3, 2}, lists(40, 3, 0)...), 9), api.ErrDeep},
	} {
		if v, n, e := wire.Read(x.b); !wire.Same(v, api.Item{}) || n != 0 || e != x.want {
			t.Errorf("%s: Read: got %v, %d, %d, want %d", x.name, v, n, e, x.want)
		}
		if v, e := wire.Decode(x.b); !wire.Same(v, api.Item{}) || e != x.want {
			t.Errorf("%s: Decode: got %v, %d, want %d", x.name, v, e, x.want)
		}
	}
}

// P1.2: how deep an item is hangs on the lists around it, not on those ahead of it.
func TestReadDepthOfOneBesideAnother(t *testing.T) {
	b := append([]byte{3, 3}, lists(38, 3, 0)...)
	b = append(append(b, lists(38, 3, 0)...), 2, 0)
	v, n, e := wire.Read(b)
	if want := list(within(list(), 38), within(list(), 38), text("")); !wire.Same(v, want) || n != len(b) || e != api.OK {
		t.Errorf("got %v, %d, %d", v, n, e)
	}
}

// P1.2: Decode wants nothing left behind; Read's error is ahead of that.
func TestDecodeLeft(t *testing.T) {
	for _, b := range [][]byte{{3, 0, 0}, {3, 0, 3, 0}, {2, 1, 97, 97}, {1, 0, 0, 0, 0, 0, 0, 0, 1, 1}} {
		if v, e := wire.Decode(b); !wire.Same(v, api.Item{}) || e != api.ErrForm {
			t.Errorf("%v: got %v, %d", b, v, e)
		}
	}
}

// someItem is an item that may be, of at most that depth.
func someItem(r *rand.Rand, depth int) api.Item {
	kind := 1 + r.Intn(3)
	if depth == 1 {
		kind = 1 + r.Intn(2)
	}
	switch kind {
	case api.Num:
		return num(int64(r.Uint64()) >> r.Intn(64))
	case api.Text:
		s := make([]byte, r.Intn(200)>>r.Intn(8))
		r.Read(s)
		return text(string(s))
	}
	l := make([]api.Item, r.Intn(6))
	for i := range l {
		l[i] = someItem(r, depth-1)
	}
	return list(l...)
}

// P1.4: what was written is read as what it was, whatever stands behind it; what was cut is short.
func TestWrittenIsRead(t *testing.T) {
	r := rand.New(rand.NewSource(1))
	for range 400 {
		v := someItem(r, 6)
		b, e := wire.Encode(v)
		if e != api.OK {
			t.Fatalf("%v: %d", v, e)
		}
		behind := make([]byte, r.Intn(12))
		r.Read(behind)
		got, n, e := wire.Read(append(slices.Clone(b), behind...))
		if !wire.Same(got, v) || n != len(b) || e != api.OK {
			t.Fatalf("%v, %v behind it: got %v, %d, %d", v, behind, got, n, e)
		}
		if got, e := wire.Decode(b); !wire.Same(got, v) || e != api.OK {
			t.Fatalf("%v: decoded as %v, %d", v, got, e)
		}
		for k := range b {
			if got, n, e := wire.Read(b[:k:k]); got.Kind != 0 || n != 0 || e != api.ErrShort {
				t.Fatalf("%v, cut at %d: got %v, %d, %d", v, k, got, n, e)
			}
		}
	}
}

// P1.4: what is read is written as these very bytes; what was refused for another cause than being short is so, whatever stands behind it.
func TestReadIsWritten(t *testing.T) {
	from := []byte{0, 1, 2, 3, 127, 128, 129, 255}
	var try func(b []byte, ahead api.Errno)
	try = func(b []byte, ahead api.Errno) {
		v, n, e := wire.Read(b)
		if ahead != api.ErrShort && e != ahead {
			t.Fatalf("%v: got %d, without its last byte %d", b, e, ahead)
		}
		if e == api.OK {
			if out, e := wire.Encode(v); !bytes.Equal(out, b[:n]) || e != api.OK {
				t.Fatalf("%v: read as %v, written as %v, %d", b, v, out, e)
			}
		}
		for _, c := range from {
			if len(b) < 6 {
				try(append(slices.Clone(b), c), e)
			}
		}
	}
	try(nil, api.ErrShort)
}

// R2: bytes that are handed in stay what they are, and may be written into behind the call.
func TestBytesAreNotShared(t *testing.T) {
	want := list(text("abc"), list(text("d"), num(5)))
	b, _ := wire.Encode(want)
	kept := slices.Clone(b)
	v, n, _ := wire.Read(b)
	w, _ := wire.Decode(b)
	if !bytes.Equal(b, kept) {
		t.Errorf("what was read is %v now", b)
	}
	clear(b)
	if !wire.Same(v, want) || n != len(kept) || !wire.Same(w, want) {
		t.Errorf("got %v, %v", v, w)
	}
	again, _ := wire.Encode(want)
	if !bytes.Equal(again, kept) {
		t.Errorf("written as %v", again)
	}
	v.L[1].L[0] = num(9)
	v.L = append(v.L[:1], num(8))
	if !wire.Same(w, want) {
		t.Errorf("two answers share a list: %v", w)
	}
}

func FuzzRead(f *testing.F) {
	for _, b := range [][]byte{{1, 0, 0, 0, 0, 0, 0, 0, 1}, {2, 2, 97, 98}, {3, 2, 2, 0, 3, 0}, {2, 130, 44}, lists(40, 3, 0)} {
		f.Add(b)
	}
	f.Fuzz(func(t *testing.T, b []byte) {
		v, n, e := wire.Read(b)
		if e != api.OK {
			if n != 0 || v.Kind != 0 {
				t.Errorf("%v, %d beside the error %d", v, n, e)
			}
			return
		}
		if out, e := wire.Encode(v); !bytes.Equal(out, b[:n]) || e != api.OK {
			t.Errorf("read as %v, written as %v, %d", v, out, e)
		}
	})
}
