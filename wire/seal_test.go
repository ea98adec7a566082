package wire_test

import (
	"bytes"
	"hash/crc32"
	"math/rand"
	"slices"
	"testing"

	"quincunx/api"
	"quincunx/wire"
)

// slowSum is the sum as the document words it, bit by bit.
func slowSum(b []byte) uint32 {
	reg := uint32(0xFFFFFFFF)
	for _, c := range b {
		reg = reg&0xFFFFFF00 | (reg&0xFF ^ uint32(c))
		for range 8 {
			fell := reg & 1
			reg >>= 1
			if fell == 1 {
				reg ^= 0xEDB88320
			}
		}
	}
	return ^reg
}

// P1.3: sums that are known, and sums as the document words them.
func TestSum(t *testing.T) {
	for _, x := range []struct {
		b    string
		want uint32
	}{
		{"", 0},
		{"123456789", 0xCBF43926},
		{"a", 0xE8B7BE43},
		{"\x00", 0xD202EF8D},
		{"\xff\xff\xff\xff", 0xFFFFFFFF},
		{"The quick brown fox jumps over the lazy dog", 0x414FA339},
	} {
		if got := wire.Sum([]byte(x.b)); got != x.want {
			t.Errorf("%q: got %x, want %x", x.b, got, x.want)
		}
	}
	if wire.Sum(nil) != 0 {
		t.Error("of none")
	}
	r := rand.New(rand.NewSource(2))
	for n := range 300 {
		b := make([]byte, n)
		r.Read(b)
		kept := slices.Clone(b)
		if got, want := wire.Sum(b), slowSum(b); got != want || got != crc32.ChecksumIEEE(b) {
			t.Errorf("%v: got %x, want %x", b, got, want)
		}
		if !bytes.Equal(b, kept) {
			t.Errorf("%v was changed to %v", kept, b)
		}
	}
}

// P1.3: the length, highest byte first; the bytes; the sum of these, lowest byte first.
func TestSeal(t *testing.T) {
	for _, x := range []struct {
		name   string
		b      []byte
		length []byte
	}{
		{"none", nil, []byte{0, 0, 0, 0}},
		{"three", []byte("abc"), []byte{0, 0, 0, 3}},
		{"300", bytes.Repeat([]byte{7}, 300), []byte{0, 0, 1, 44}},
		{"66051", bytes.Repeat([]byte{1, 2, 3}, 22017), []byte{0, 1, 2, 3}},
		{"2^24 + 5", make([]byte, 1<<24+5), []byte{1, 0, 0, 5}},
	} {
		kept := slices.Clone(x.b)
		want := append(slices.Clone(x.length), x.b...)
		sum := slowSum(want)
		want = append(want, byte(sum), byte(sum>>8), byte(sum>>16), byte(sum>>24))
		got := wire.Seal(x.b)
		if !bytes.Equal(got, want) {
			t.Errorf("%s: got %d bytes, %v ..", x.name, len(got), got[:min(12, len(got))])
		}
		clear(got)
		if !bytes.Equal(x.b, kept) {
			t.Errorf("%s: what was sealed was changed", x.name)
		}
		b, n, e := wire.Open(append(want, 1, 2, 3))
		if !bytes.Equal(b, x.b) || n != len(x.b)+8 || e != api.OK {
			t.Errorf("%s: opened as %d bytes, %d, %d", x.name, len(b), n, e)
		}
	}
}

// P1.3: sealed bytes may stand one behind the other.
func TestOpenOneBehindTheOther(t *testing.T) {
	all := []string{"one", "", "three", "\x00\x00\x00\x01"}
	var b []byte
	for _, s := range all {
		b = append(b, wire.Seal([]byte(s))...)
	}
	for _, s := range all {
		got, n, e := wire.Open(b)
		if string(got) != s || n != len(s)+8 || e != api.OK {
			t.Fatalf("%q: got %q, %d, %d", s, got, n, e)
		}
		b = b[n:]
	}
}

// P1.3: what is refused, and with what; nothing else beside it.
func TestOpenRefuses(t *testing.T) {
	good := wire.Seal([]byte("abc"))
	last := slices.Clone(good)
	last[len(last)-1] ^= 128
	high := slices.Clone(good) // the sum, highest byte first
	slices.Reverse(high[7:])
	alone := slices.Concat([]byte{0, 0, 0, 3}, []byte("abc")) // the sum of the bytes without the length
	sum := slowSum([]byte("abc"))
	alone = append(alone, byte(sum), byte(sum>>8), byte(sum>>16), byte(sum>>24))
	for _, x := range []struct {
		name string
		b    []byte
		want api.Errno
	}{
		{"none", nil, api.ErrShort},
		{"three bytes", []byte{0, 0, 0}, api.ErrShort},
		{"three bytes, too great", []byte{255, 255, 255}, api.ErrShort},
		{"a length alone", []byte{0, 0, 0, 0}, api.ErrShort},
		{"a sum cut", []byte{0, 0, 0, 0, 28, 223, 68}, api.ErrShort},
		{"a length of 2^31 - 1", []byte{127, 255, 255, 255, 1, 2, 3, 4, 5}, api.ErrShort},
		{"a length of 2^31", []byte{128, 0, 0, 0, 1, 2, 3, 4, 5}, api.ErrForm},
		{"a length of 2^31, alone", []byte{128, 0, 0, 0}, api.ErrForm},
		{"a length of 2^32 - 1", []byte{255, 255, 255, 255}, api.ErrForm},
		{"another sum", last, api.ErrSum},
		{"the sum the other way round", high, api.ErrSum},
		{"the sum of the bytes alone", alone, api.ErrSum},
		{"another sum, with something behind", append(slices.Clone(last), good...), api.ErrSum},
		{"all 0", make([]byte, 8), api.ErrSum},
		{"a length that is one more", append([]byte{0, 0, 0, 4}, append(slices.Clone(good[4:]), 0)...), api.ErrSum},
	} {
		if b, n, e := wire.Open(x.b); len(b) != 0 || n != 0 || e != x.want {
			t.Errorf("%s: got %v, %d, %d, want %d", x.name, b, n, e, x.want)
		}
	}
}

// P1.4: what was sealed and cut is short.
func TestCutSeals(t *testing.T) {
	for _, s := range []string{"", "a", "some more bytes"} {
		b := wire.Seal([]byte(s))
		for k := range b {
			if got, n, e := wire.Open(b[:k:k]); len(got) != 0 || n != 0 || e != api.ErrShort {
				t.Errorf("%q, cut at %d: got %v, %d, %d", s, k, got, n, e)
			}
		}
	}
}

// P1.4: changes within 32 bits side by side, behind the length, are found.
func TestChangesAreFound(t *testing.T) {
	r := rand.New(rand.NewSource(3))
	for _, s := range []string{"", "a", "123456789", "\x00\x00\x00\x00\x00\x00\x00\x00", "\xff\xff\xff\xff\xff\xff"} {
		good := wire.Seal([]byte(s))
		for at := 32; at < 8*len(good); at++ {
			changes := []uint32{1, 1<<31 | 1, 0xFFFFFFFF, 0xEDB88320, 0xDB710641}
			for range 40 {
				changes = append(changes, r.Uint32()|1)
			}
			for _, c := range changes {
				b := slices.Clone(good)
				for i := range min(32, 8*len(b)-at) {
					b[(at+i)/8] ^= byte(c>>i&1) << ((at + i) % 8)
				}
				if bytes.Equal(b, good) {
					continue
				}
				if got, n, e := wire.Open(b); len(got) != 0 || n != 0 || e != api.ErrSum {
					t.Fatalf("%q, %x turned at the bit %d: got %v, %d, %d", s, c, at, got, n, e)
				}
			}
		}
	}
}

// R2: what was opened is the caller's own, and does not hang on what it was opened from.
func TestSealsAreNotShared(t *testing.T) {
	b := wire.Seal([]byte("abc"))
	kept := slices.Clone(b)
	got, _, _ := wire.Open(b)
	other, _, _ := wire.Open(b)
	if !bytes.Equal(b, kept) {
		t.Errorf("what was opened is %v now", b)
	}
	clear(b)
	clear(other)
	if string(got) != "abc" {
		t.Errorf("got %q", got)
	}
	b = slices.Clone(kept)
	got, _, _ = wire.Open(b)
	_ = append(got, 1, 2, 3, 4)
	if !bytes.Equal(b, kept) {
		t.Errorf("what was opened is %v now", b)
	}
	in := []byte("abc")
	sealed := wire.Seal(in)
	clear(in)
	if !bytes.Equal(sealed, kept) {
		t.Errorf("got %v", sealed)
	}
}
