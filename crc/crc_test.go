package crc_test

import (
	"bytes"
	"hash/crc32"
	"math"
	"math/rand"
	"slices"
	"testing"

	"keepsake/crc"
)

const (
	generator = 2197175160 // what a step xors an odd number with
	residue   = 0x48674bc7 // the sum of every text with its sum's bytes behind it
)

// steps is x behind n steps, as the chapter words them.
func steps(x uint32, n int) uint32 {
	for range n {
		odd := x%2 == 1
		x /= 2
		if odd {
			x ^= generator
		}
	}
	return x
}

// sumOf is the sum of a text as the chapter words it.
func sumOf(text []byte) uint32 {
	x := uint32(math.MaxUint32)
	for _, c := range text {
		x = steps(x^uint32(c), 8)
	}
	return math.MaxUint32 - x
}

// someText is a text of n bytes, with other bytes in the spare room behind it.
func someText(r *rand.Rand, n int) []byte {
	b := make([]byte, n+r.Intn(9))
	r.Read(b)
	return b[:n]
}

// cut cuts a text into parts, empty ones among them.
func cut(r *rand.Rand, text []byte) [][]byte {
	var parts [][]byte
	for len(text) > 0 {
		n := r.Intn(len(text) + 1)
		parts = append(parts, text[:n], nil)
		text = text[n:]
	}
	return parts
}

func TestTable(t *testing.T) {
	table := crc.Table()
	for i, x := range table {
		if want := steps(uint32(i), 8); x != want {
			t.Errorf("Table at %d: %x, want %x", i, x, want)
		}
	}
	for i, want := range map[int]uint32{0: 0, 1: 0xf26b8303, 128: 0x82f63b78, 255: 0xad7d5351} {
		if table[i] != want {
			t.Errorf("Table at %d: %x, want %x", i, table[i], want)
		}
	}
	table[7] = 1
	if crc.Table()[7] != steps(7, 8) {
		t.Error("Table hangs on what was done to an answer")
	}
}

func TestSumExamples(t *testing.T) {
	text := []byte("123456789")
	for _, x := range []struct {
		name  string
		texts [][]byte
		want  uint32
	}{
		{"none", nil, 0}, {"a nil one", [][]byte{nil}, 0}, {"empty ones", [][]byte{{}, nil, {}}, 0}, {"one", [][]byte{text}, 0xe3069283},
		{"two", [][]byte{text[:4], text[4:]}, 0xe3069283}, {"with empty ones", [][]byte{nil, text[:4], {}, text[4:], nil}, 0xe3069283},
		{"the same text twice", [][]byte{text[:1], text[:1]}, sumOf([]byte("11"))}, {"the other way", [][]byte{text[4:], text[:4]}, sumOf([]byte("567891234"))},
		{"32 bytes of 255", [][]byte{bytes.Repeat([]byte{255}, 32)}, 0x62a8ab43}, {"a byte of 0", [][]byte{{0}}, 0x527d5351},
	} {
		if s := crc.Sum(x.texts...); s != x.want {
			t.Errorf("Sum of %s: %x, want %x", x.name, s, x.want)
		}
	}
}

func TestSumOfAllShort(t *testing.T) {
	for i := range 1 << 16 {
		one, two := []byte{byte(i)}, []byte{byte(i), byte(i >> 8)}
		if crc.Sum(one) != sumOf(one) || crc.Sum(two) != sumOf(two) || crc.Sum(one, two[1:]) != sumOf(two) {
			t.Fatalf("Sum of %v or of %v", one, two)
		}
	}
}

func TestSumOfAnyTexts(t *testing.T) {
	r := rand.New(rand.NewSource(1))
	library := crc32.MakeTable(crc32.Castagnoli)
	for n := range 600 {
		text := someText(r, n)
		want := sumOf(text)
		if s := crc.Sum(text); s != want || s != crc32.Checksum(text, library) {
			t.Errorf("Sum of %d bytes: %x, want %x", n, s, want)
		}
		if s := crc.Sum(cut(r, text)...); s != want {
			t.Errorf("Sum of %d bytes in parts: %x, want %x", n, s, want)
		}
	}
	long := someText(r, 3<<20)
	if s := crc.Sum(long); s != crc32.Checksum(long, library) {
		t.Errorf("Sum of a long text: %x", s)
	}
}

func TestMore(t *testing.T) {
	if crc.More(0) != 0 || crc.More(7) != 7 || crc.More(math.MaxUint32) != math.MaxUint32 {
		t.Error("More by no bytes")
	}
	if crc.More(0, 49, 50) != sumOf([]byte("12")) || crc.More(crc.More(0, 49), 50) != sumOf([]byte("12")) {
		t.Error("More of the sum of no bytes")
	}
	r := rand.New(rand.NewSource(2))
	for range 2000 {
		s, c := r.Uint32(), byte(r.Intn(256))
		want := ^steps(^s^uint32(c), 8)
		if x := crc.More(s, c); x != want {
			t.Errorf("More(%x, %d): %x, want %x", s, c, x, want)
		}
		b := someText(r, r.Intn(40))
		for _, c := range b {
			want = ^steps(^want^uint32(c), 8)
		}
		if x := crc.More(s, append([]byte{c}, b...)...); x != want {
			t.Errorf("More(%x, %d and %v): %x, want %x", s, c, b, x, want)
		}
	}
}

func TestBytesAndFrom(t *testing.T) {
	for s, want := range map[uint32][4]byte{
		0: {}, 1: {1}, 0xe3069283: {0x83, 0x92, 0x06, 0xe3}, 0x04030201: {1, 2, 3, 4}, math.MaxUint32: {255, 255, 255, 255}, 1 << 31: {3: 128},
	} {
		if b := crc.Bytes(s); b != want {
			t.Errorf("Bytes(%x): %x, want %x", s, b, want)
		}
		if x, ok := crc.From(want[:]); x != s || !ok {
			t.Errorf("From of %x: %x, %v, want %x", want, x, ok, s)
		}
	}
	for i := range 32 {
		b := crc.Bytes(1 << i)
		if b[i/8] != 1<<(i%8) {
			t.Errorf("Bytes of bit %d: %x", i, b)
		}
		if s, ok := crc.From(b[:]); s != 1<<i || !ok {
			t.Errorf("From of bit %d: %x, %v", i, s, ok)
		}
	}
}

func TestFromOfAnotherLength(t *testing.T) {
	b := bytes.Repeat([]byte{9}, 300)
	for n := range b {
		s, ok := crc.From(b[:n])
		if ok != (n == 4) || s != 0 && n != 4 {
			t.Errorf("From of %d bytes: %x, %v", n, s, ok)
		}
	}
	if s, ok := crc.From(nil); s != 0 || ok {
		t.Errorf("From of nil: %x, %v", s, ok)
	}
}

// burst is what Burst must answer, bit by bit.
func burst(a, b []byte) (first, last int, ok bool) {
	if len(a) != len(b) {
		return 0, 0, false
	}
	for i := range 8 * len(a) {
		weight := byte(1) << (i % 8)
		if a[i/8]&weight == b[i/8]&weight {
			continue
		}
		if !ok {
			first, ok = i, true
		}
		last = i
	}
	return first, last, ok
}

func checkBurst(t *testing.T, a, b []byte) {
	t.Helper()
	first, last, ok := burst(a, b)
	if f, l, k := crc.Burst(a, b); f != first || l != last || k != ok {
		t.Errorf("Burst(%v, %v): %d %d %v, want %d %d %v", a, b, f, l, k, first, last, ok)
	}
	if f, l, k := crc.Burst(b, a); f != first || l != last || k != ok {
		t.Errorf("Burst(%v, %v), turned about: %d %d %v, want %d %d %v", a, b, f, l, k, first, last, ok)
	}
}

func TestBurstExamples(t *testing.T) {
	for _, x := range []struct {
		a, b        []byte
		first, last int
		ok          bool
	}{
		{[]byte{0, 0}, []byte{0, 1}, 8, 8, true}, {[]byte{1, 128}, []byte{0, 0}, 0, 15, true}, {[]byte{0}, []byte{0}, 0, 0, false},
		{[]byte{0}, []byte{0, 0}, 0, 0, false}, {[]byte{1}, []byte{0, 0}, 0, 0, false}, {nil, nil, 0, 0, false}, {nil, []byte{}, 0, 0, false},
		{nil, []byte{1}, 0, 0, false}, {[]byte{1}, []byte{0}, 0, 0, true}, {[]byte{128}, []byte{0}, 7, 7, true}, {[]byte{24}, []byte{0}, 3, 4, true},
		{[]byte{255, 7, 255}, []byte{255, 7, 127}, 23, 23, true}, {[]byte{5, 7, 5}, []byte{4, 7, 5}, 0, 0, true}, {[]byte{255}, []byte{0}, 0, 7, true},
		{[]byte{5, 7}, []byte{5, 7, 9}, 0, 0, false}, {[]byte{5, 7, 9}, []byte{5, 7, 9}, 0, 0, false},
	} {
		if f, l, ok := crc.Burst(x.a, x.b); f != x.first || l != x.last || ok != x.ok {
			t.Errorf("Burst(%v, %v): %d %d %v", x.a, x.b, f, l, ok)
		}
		checkBurst(t, x.a, x.b)
	}
	long := make([]byte, 1<<20)
	other := slices.Clone(long)
	other[0], other[len(other)-1] = 1, 128
	if f, l, ok := crc.Burst(long, other); f != 0 || l != 8<<20-1 || !ok {
		t.Errorf("Burst of all bits of a long text: %d %d %v", f, l, ok)
	}
}

func TestBurstOfAnyTexts(t *testing.T) {
	for i := range 1 << 16 {
		checkBurst(t, []byte{byte(i)}, []byte{byte(i >> 8)})
	}
	r := rand.New(rand.NewSource(3))
	for range 20000 {
		a := someText(r, r.Intn(12))
		b := slices.Clone(a)
		for range r.Intn(3) {
			if i := r.Intn(12); i < len(b) {
				b[i] ^= 1 << r.Intn(8)
			}
		}
		checkBurst(t, a, b)
		checkBurst(t, a, b[:r.Intn(len(b)+1)])
	}
}

// TestLeavesAlone: what is handed in is not changed, spare room included.
func TestLeavesAlone(t *testing.T) {
	whole := []byte{1, 2, 3, 4, 5, 6, 7, 8}
	kept := slices.Clone(whole)
	b := whole[2:6]
	texts := [][]byte{b, nil, b[:1], whole[7:]}
	h := crc.New()
	crc.Sum(texts[:3]...)
	h.Write(texts[:3]...)
	crc.More(7, b...)
	crc.From(b)
	crc.Burst(b, whole[3:7])
	if !slices.Equal(whole, kept) {
		t.Errorf("%v, were %v", whole, kept)
	}
	if texts[1] != nil || len(texts[0]) != 4 || len(texts[2]) != 1 || &texts[3][0] != &whole[7] {
		t.Error("the list of texts is changed")
	}
}
