package crc_test

import (
	"math/rand"
	"slices"
	"testing"

	"keepsake/crc"
)

// checkCut holds the sums of a text that is cut at n against that of the whole.
func checkCut(t *testing.T, text []byte, n int) {
	t.Helper()
	a, b, whole := text[:n], text[n:], sumOf(text)
	if s := crc.More(crc.Sum(a), b...); s != whole {
		t.Errorf("More of %v, cut at %d: %x, want %x", text, n, s, whole)
	}
	if s := crc.Join(crc.Sum(a), crc.Sum(b), len(b)); s != whole {
		t.Errorf("Join of %v, cut at %d: %x, want %x", text, n, s, whole)
	}
	end := crc.Bytes(whole)
	if s := crc.Sum(text, end[:]); s != residue {
		t.Errorf("Sum of %v with its sum behind it: %x", text, s)
	}
}

func TestCutAnywhere(t *testing.T) {
	r := rand.New(rand.NewSource(10))
	for n := range 60 {
		text := someText(r, n)
		for at := range n + 1 {
			checkCut(t, text, at)
		}
	}
	for range 30 {
		text := someText(r, r.Intn(5000))
		checkCut(t, text, r.Intn(len(text)+1))
	}
}

// spoilt is text with the bits of mask turned, its lowest one at bit at.
func spoilt(text []byte, mask uint64, at int) []byte {
	other := slices.Clone(text)
	for i := range 64 {
		if mask>>i&1 == 1 {
			other[(at+i)/8] ^= 1 << ((at + i) % 8)
		}
	}
	return other
}

// checkSpoilt: bits less than 32 apart that are turned make another sum.
func checkSpoilt(t *testing.T, text []byte, mask uint64, at int) {
	t.Helper()
	other := spoilt(text, mask, at)
	first, last, ok := crc.Burst(text, other)
	if !ok || first < at || last-first > 31 {
		t.Fatalf("Burst of %x at bit %d: %d %d %v", mask, at, first, last, ok)
	}
	if crc.Sum(text) == crc.Sum(other) {
		t.Errorf("%v with %x turned at bit %d has the same sum", text, mask, at)
	}
}

func TestSpoiltTexts(t *testing.T) {
	r := rand.New(rand.NewSource(11))
	text := someText(r, 20)
	bits := 8 * len(text)
	for at := range bits {
		checkSpoilt(t, text, 1, at)
		for wide := 2; wide <= 32 && at+wide <= bits; wide++ {
			ends := uint64(1) | 1<<(wide-1)
			checkSpoilt(t, text, ends, at)
			checkSpoilt(t, text, 1<<wide-1, at)
			for range 5 {
				checkSpoilt(t, text, ends|r.Uint64()&(1<<wide-1), at)
			}
		}
	}
}

// TestSpoiltByGenerator: the one run of 33 bits that a sum can't see; a sum that sees it is another one's.
func TestSpoiltByGenerator(t *testing.T) {
	r := rand.New(rand.NewSource(12))
	text := someText(r, 20)
	for at := range 8*len(text) - 32 {
		other := spoilt(text, 1|generator<<1, at)
		if first, last, ok := crc.Burst(text, other); first != at || last != at+32 || !ok {
			t.Errorf("Burst at bit %d: %d %d %v", at, first, last, ok)
		}
		if crc.Sum(text) != crc.Sum(other) {
			t.Errorf("the generator at bit %d is seen", at)
		}
	}
}

func FuzzCut(f *testing.F) {
	f.Add([]byte("123456789"), 4)
	f.Add([]byte{}, 0)
	f.Fuzz(func(t *testing.T, text []byte, n int) {
		at := int(uint(n) % uint(len(text)+1))
		checkCut(t, text, at)
		checkBurst(t, text[:at], text[len(text)-at:])
		if crc.Sum(text) != sumOf(text) || crc.Carry(uint32(n), n) != carried(uint32(n), n) {
			t.Errorf("Sum of %v or Carry of %d", text, n)
		}
	})
}
