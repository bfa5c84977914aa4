package crc

// moves says of each of 32 bits what becomes of it. Steps do to a xor of numbers what they do to each of them, so this tells what becomes of every number.
type moves [32]uint32

// moved is what becomes of x.
func (m moves) moved(x uint32) uint32 {
	y := uint32(0)
	for i, to := range m {
		if x>>i&1 == 1 {
			y ^= to
		}
	}
	return y
}

// squared is m, and m once more behind it.
func (m moves) squared() moves {
	var twice moves
	for i, to := range m {
		twice[i] = m.moved(to)
	}
	return twice
}

// byteMoves is what a byte of 0 does.
func byteMoves() moves {
	var m moves
	for i := range m {
		m[i] = overByte(1 << i)
	}
	return m
}

// Carry is a number carried over some bytes.
func Carry(x uint32, n int) uint32 {
	// The moves stand for 1, 2, 4 .. bytes: bytes, not steps, so that a great n does not run over.
	for m := byteMoves(); n > 0; n >>= 1 {
		if n&1 == 1 {
			x = m.moved(x)
		}
		m = m.squared()
	}
	return x
}

// Zeros is the sum of so many bytes of 0.
func Zeros(n int) uint32 { return ^Carry(^uint32(0), n) }

// Join is the sum of two texts, out of their sums and the second one's length.
func Join(a, b uint32, n int) uint32 { return Carry(a, n) ^ b }
