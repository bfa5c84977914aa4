package crc_test

import (
	"math"
	"math/rand"
	"testing"

	"keepsake/crc"
)

// round is how many steps bring every number back to itself: the generator is X + 1 times a primitive one of degree 31. So many bytes do so, too.
const round = 1<<31 - 1

// product is a times b as polynomials, bit 31 being the constant term, without multiples of the generator.
func product(a, b uint32) uint32 {
	p := uint32(0)
	for i := 31; i >= 0; i-- {
		if a>>i&1 == 1 {
			p ^= b
		}
		b = steps(b, 1)
	}
	return p
}

// carried is x times X to the power 8n: what Carry must answer, reckoned by products.
func carried(x uint32, n int) uint32 {
	power := uint32(1) << 23 // X to the power 8
	for ; n > 0; n /= 2 {
		if n%2 == 1 {
			x = product(x, power)
		}
		power = product(power, power)
	}
	return x
}

// lengths are numbers of bytes: few, around each power of two, around the round, and below 0.
func lengths(r *rand.Rand) []int {
	l := []int{math.MinInt, math.MinInt + 1, -5, -1, 0, 1, 2, 3, round - 1, round, round + 1, 2 * round, math.MaxInt - 1, math.MaxInt}
	for i := range 63 {
		p := 1 << i
		l = append(l, p-1, p, p+1, -p)
	}
	for range 100 {
		l = append(l, int(r.Uint64()>>1>>r.Intn(63)))
	}
	return l
}

func TestCarryExamples(t *testing.T) {
	for _, x := range []struct {
		x    uint32
		n    int
		want uint32
	}{
		{1, 1, 0xf26b8303}, {1, 0, 1}, {1, 2147483647, 1}, {1, -1, 1}, {9, math.MinInt, 9}, {0, 5, 0}, {0, math.MaxInt, 0},
		{math.MaxUint32, 0, math.MaxUint32}, {1 << 31, 4, generator}, {1 << 31, 3, 1 << 7}, {1, math.MaxInt, 0xf26b8303},
	} {
		if c := crc.Carry(x.x, x.n); c != x.want {
			t.Errorf("Carry(%x, %d): %x, want %x", x.x, x.n, c, x.want)
		}
	}
}

func TestCarryStepByStep(t *testing.T) {
	r := rand.New(rand.NewSource(4))
	starts := []uint32{0, 1, 1 << 31, math.MaxUint32, generator, r.Uint32(), r.Uint32(), r.Uint32()}
	for _, start := range starts {
		x := start
		for n := range 1100 {
			if c := crc.Carry(start, n); c != x {
				t.Fatalf("Carry(%x, %d): %x, want %x", start, n, c, x)
			}
			x = steps(x, 8)
		}
		if c, x := crc.Carry(start, 100003), steps(start, 8*100003); c != x {
			t.Errorf("Carry(%x, 100003): %x, want %x", start, c, x)
		}
	}
}

func TestCarryFar(t *testing.T) {
	r := rand.New(rand.NewSource(5))
	for _, n := range lengths(r) {
		for _, x := range []uint32{1, math.MaxUint32, r.Uint32()} {
			want := carried(x, n)
			if c := crc.Carry(x, n); c != want {
				t.Errorf("Carry(%x, %d): %x, want %x", x, n, c, want)
			}
			if c := crc.Carry(x, max(n, 0)%round); c != want {
				t.Errorf("Carry(%x, %d) without rounds: %x, want %x", x, n, c, want)
			}
		}
	}
}

func TestZeros(t *testing.T) {
	for n, want := range map[int]uint32{
		0: 0, 1: 0x527d5351, 4: residue, -1: 0, -5: 0, math.MinInt: 0, 2147483647: 0, 2147483648: 0x527d5351, 9223372036854775807: 0x527d5351,
	} {
		if s := crc.Zeros(n); s != want {
			t.Errorf("Zeros(%d): %x, want %x", n, s, want)
		}
	}
	noughts := make([]byte, 1<<16)
	for n := range 700 {
		if s := crc.Zeros(n); s != sumOf(noughts[:n]) {
			t.Errorf("Zeros(%d): %x", n, s)
		}
	}
	if crc.Zeros(len(noughts)) != crc.Sum(noughts) || crc.Zeros(len(noughts)-1) != crc.Sum(noughts[1:]) {
		t.Error("Zeros of many")
	}
}

func TestJoin(t *testing.T) {
	if s := crc.Join(sumOf([]byte("1234")), sumOf([]byte("56789")), 5); s != 0xe3069283 {
		t.Errorf("Join: %x", s)
	}
	if crc.Join(5, 3, -1) != 6 || crc.Join(5, 3, 0) != 6 || crc.Join(5, 3, math.MinInt) != 6 || crc.Join(0, 3, math.MaxInt) != 3 || crc.Join(1, 0, round) != 1 {
		t.Error("Join at the edges of n")
	}
	r := rand.New(rand.NewSource(6))
	for _, n := range lengths(r) {
		a, b := r.Uint32(), r.Uint32()
		if s := crc.Join(a, b, n); s != carried(a, n)^b {
			t.Errorf("Join(%x, %x, %d): %x", a, b, n, s)
		}
	}
}

func TestCarryTwice(t *testing.T) {
	r := rand.New(rand.NewSource(7))
	for range 300 {
		m, n := int(r.Uint64()>>2>>r.Intn(62)), int(r.Uint64()>>2>>r.Intn(62))
		x := r.Uint32()
		if c := crc.Carry(crc.Carry(x, m), n); c != crc.Carry(x, m+n) {
			t.Errorf("Carry(%x, %d and %d): %x", x, m, n, c)
		}
	}
}

func TestJoinInBothBrackets(t *testing.T) {
	r := rand.New(rand.NewSource(8))
	for range 300 {
		m, n := int(r.Uint64()>>2>>r.Intn(62)), int(r.Uint64()>>2>>r.Intn(62))
		a, b, c := r.Uint32(), r.Uint32(), r.Uint32()
		if left, right := crc.Join(crc.Join(a, b, m), c, n), crc.Join(a, crc.Join(b, c, n), m+n); left != right {
			t.Errorf("Join of %x, %x of %d, %x of %d: %x and %x", a, b, m, c, n, left, right)
		}
	}
}
