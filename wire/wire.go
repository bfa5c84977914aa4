// Package wire is layer 1: numbers and texts as bytes, each in just one form, and back; see shared/doc/01-wire.md.
package wire

import (
	"math"
	"math/bits"

	"keepsake/api"
)

const (
	bitsOfByte = 7      // how many bits of a number a byte of its form holds
	follows    = 1 << 7 // what is added to a byte behind which another one follows
	mostBytes  = 10     // how long a number form can be
	topBit     = uint64(1) << 63
)

// Size tells how many bytes the number form of x has.
func Size(x uint64) int {
	// A nought has a byte, too: it counts as one bit.
	return (bits.Len64(x|1) + bitsOfByte - 1) / bitsOfByte
}

// putNumber lays the number form of x behind b.
func putNumber(b []byte, x uint64) []byte {
	for x >= follows {
		b = append(b, byte(x)|follows)
		x >>= bitsOfByte
	}
	return append(b, byte(x))
}

// putRising lays the rising form of l behind b; l rises.
func putRising(b []byte, l []int64) []byte {
	b = putNumber(b, uint64(len(l)))
	for i, x := range l {
		if i == 0 {
			b = putNumber(b, fold(x))
			continue
		}
		// The distance may be above MaxInt64; as uint64 it does not go round.
		b = putNumber(b, uint64(x)-uint64(l[i-1])-1)
	}
	return b
}

// scanNumber reads the number form that b begins with, and tells how many bytes it has; of none that is 0.
func scanNumber(b []byte) (x uint64, size int, e api.Errno) {
	var c byte
	var shift uint

next:
	if size == len(b) {
		goto short
	}
	c = b[size]
	size++
	if size == mostBytes {
		goto tenth
	}
	x |= uint64(c&^follows) << shift
	shift += bitsOfByte
	if c >= follows {
		goto next
	}
	if c == 0 && size > 1 {
		// A form with fewer bytes says the same.
		goto bad
	}
	return x, size, api.OK

tenth:
	// Nine bytes hold 63 bits: one is left, and a nought there would be one byte too many.
	if c != 1 {
		goto bad
	}
	return x | topBit, size, api.OK

short:
	return 0, 0, api.ErrEnd

bad:
	return 0, 0, api.ErrForm
}

// fold turns x into the number whose form is its signed form.
func fold(x int64) uint64 {
	u := uint64(x)
	u <<= 1
	u ^= uint64(x >> 63)
	return u
}

// unfold is fold turned about.
func unfold(u uint64) int64 {
	sign := int64(u<<63) >> 63
	u >>= 1
	u ^= uint64(sign)
	return int64(u)
}

// rises tells whether each number of l is above the one ahead.
func rises(l []int64) bool {
	for i := 1; i < len(l); i++ {
		if l[i] <= l[i-1] {
			return false
		}
	}
	return true
}

// above tells the number that is d + 1 above x; false, if that is above MaxInt64.
func above(x int64, d uint64) (int64, bool) {
	room := uint64(math.MaxInt64) - uint64(x)
	if d >= room {
		return 0, false
	}
	return int64(uint64(x) + d + 1), true
}
