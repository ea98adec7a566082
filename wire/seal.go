package wire

import "quincunx/api"

const (
	lengthLen = 4          // bytes of a sealed length
	sumLen    = 4          // bytes of a sum
	turn      = 0xEDB88320 // what the register is turned by, when a 1 fell out
)

// Sum is the sum of bytes.
func Sum(b []byte) uint32 {
	reg := ^uint32(0)
	for _, c := range b {
		reg ^= uint32(c)
		for range 8 {
			// A product, not a branch: which bits fall out can't be foreseen, and branches that go wrong are slow.
			reg = reg>>1 ^ turn*(reg&1)
		}
	}
	return ^reg
}

// Seal writes bytes so that Open finds what was changed.
func Seal(b []byte) []byte {
	out := make([]byte, lengthLen+len(b)+sumLen)
	putHigh(out[:lengthLen], uint64(len(b)))
	end := lengthLen + copy(out[lengthLen:], b)
	putLow(out[end:], uint64(Sum(out[:end])))
	return out
}

// Open reads what was sealed at b's beginning, and tells how many bytes that has, sealed.
func Open(b []byte) ([]byte, int, api.Errno) {
	if len(b) < lengthLen {
		return nil, 0, api.ErrShort
	}
	long := int(high(b[:lengthLen]))
	if long > maxCount {
		return nil, 0, api.ErrForm
	}
	end := lengthLen + long
	if len(b) < end+sumLen {
		return nil, 0, api.ErrShort
	}
	if Sum(b[:end]) != uint32(low(b[end:end+sumLen])) {
		return nil, 0, api.ErrSum
	}
	out := make([]byte, long)
	copy(out, b[lengthLen:end])
	return out, end + sumLen, api.OK
}
