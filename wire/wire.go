// Package wire is layer 1: it writes items as bytes, reads them, and seals bytes (see shared/doc/01-wire.md).
package wire

// maxCount is the greatest count and the greatest length of sealed bytes.
const maxCount = 1<<31 - 1

// putHigh fills b with v's low bytes, the highest one first.
func putHigh(b []byte, v uint64) {
	for i := range len(b) {
		b[len(b)-1-i] = byte(v >> (8 * i))
	}
}

// high is the number of which b is the bytes, the highest one first.
func high(b []byte) uint64 {
	v := uint64(0)
	for _, c := range b {
		v = v<<8 | uint64(c)
	}
	return v
}

// putLow fills b with v's low bytes, the lowest one first.
func putLow(b []byte, v uint64) {
	for i := range len(b) {
		b[i] = byte(v >> (8 * i))
	}
}

// low is the number of which b is the bytes, the lowest one first.
func low(b []byte) uint64 {
	v := uint64(0)
	for i, c := range b {
		v |= uint64(c) << (8 * i)
	}
	return v
}
