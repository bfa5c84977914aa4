package frame_test

import (
	"bytes"
	"math/rand"
	"slices"
	"testing"

	"keepsake/api"
	"keepsake/frame"
)

func TestReadOfPut(t *testing.T) {
	r := rand.New(rand.NewSource(10))
	for n := range 400 {
		tag, body := byte(r.Intn(256)), someBytes(r, n)
		b, e := frame.Put(tag, body)
		if e != api.OK {
			t.Fatal(e)
		}
		for _, behind := range [][]byte{nil, someBytes(r, r.Intn(20)), b, make([]byte, 9)} {
			x, size, e := frame.Read(slices.Concat(b, behind))
			if x.Tag != tag || !bytes.Equal(x.Body, body) || size != frame.Size(n) || e != api.OK {
				t.Errorf("Read of Put(%d, %v) with %v behind it: %v, %d, %v", tag, body, behind, x, size, e)
			}
		}
	}
}

func row(t *testing.T, blocks ...api.Block) []byte {
	t.Helper()
	b, e := frame.Row(blocks...)
	if e != api.OK {
		t.Fatal(e)
	}
	return b
}

func TestAllOfRow(t *testing.T) {
	r := rand.New(rand.NewSource(11))
	for range 500 {
		one, two := someBlocks(r), someBlocks(r)
		a, b := row(t, one...), row(t, two...)
		if l, n, e := frame.All(a); !sameBlocks(l, one) || n != len(a) || e != api.OK {
			t.Errorf("All of Row of %v: %v, %d, %v", one, l, n, e)
		}
		both := slices.Concat(a, b)
		if l, n, e := frame.All(both); !sameBlocks(l, slices.Concat(one, two)) || n != len(both) || e != api.OK {
			t.Errorf("All of two rows, of %v and of %v: %v, %d, %v", one, two, l, n, e)
		}
		if !bytes.Equal(row(t, slices.Concat(one, two)...), both) {
			t.Errorf("Row of %v and %v", one, two)
		}
	}
}

// checkAgain: what is taken of b is b again.
func checkAgain(t *testing.T, b []byte) {
	t.Helper()
	l, n, e := frame.All(b)
	if e != api.OK {
		if l != nil || n >= len(b) {
			t.Errorf("All(%v): %v, %d, %v", b, l, n, e)
		}
		// Up to the wrong frame it is a row.
		if _, m, e := frame.All(b[:n]); m != n || e != api.OK {
			t.Errorf("All(%v), up to %d: %d, %v", b, n, m, e)
		}
		return
	}
	if again := row(t, l...); !bytes.Equal(again, b) || n != len(b) {
		t.Errorf("All(%v): %v, %d, and Row %v", b, l, n, again)
	}
}

func TestRowOfAll(t *testing.T) {
	checkAgain(t, nil)
	r := rand.New(rand.NewSource(12))
	for range 5000 {
		b := rowOf(someBlocks(r)...)
		checkAgain(t, b)
		checkAgain(t, spoil(r, b))
		checkAgain(t, someBytes(r, r.Intn(30)))
	}
}

// turned is b with the bits of mask turned, its lowest one at bit at.
func turned(b []byte, mask uint64, at int) []byte {
	other := slices.Clone(b)
	for i := range 64 {
		if mask>>i&1 == 1 {
			other[(at+i)/8] ^= 1 << ((at + i) % 8)
		}
	}
	return other
}

func checkSpoilt(t *testing.T, b []byte, mask uint64, at int) {
	t.Helper()
	other := turned(b, mask, at)
	if x, n, e := frame.Read(other); x.Tag != 0 || x.Body != nil || n != 0 || e != api.ErrSum {
		t.Errorf("Read(%v) with %x turned at bit %d: %v, %d, %v", b, mask, at, x, n, e)
	}
	if l, n, e := frame.All(slices.Concat(b, other, b)); l != nil || n != len(b) || e != api.ErrSum {
		t.Errorf("All with %x turned at bit %d of the second frame: %v, %d, %v", mask, at, l, n, e)
	}
}

func TestSpoiltTag(t *testing.T) {
	for _, b := range [][]byte{frameOf(7, nil), frameOf(0, []byte{0, 0}), frameOf(255, bytes.Repeat([]byte{255}, 130))} {
		for mask := range uint64(255) {
			checkSpoilt(t, b, mask+1, 0)
		}
	}
}

func TestSpoiltBody(t *testing.T) {
	r := rand.New(rand.NewSource(13))
	for _, n := range []int{0, 1, 4, 9, 127, 128} {
		b := frameOf(byte(r.Intn(256)), someBytes(r, n))
		bits := 8 * len(b)
		for at := bits - 8*(n+4); at < bits; at++ {
			checkSpoilt(t, b, 1, at)
			for wide := 2; wide <= 32 && at+wide <= bits; wide++ {
				ends := uint64(1) | 1<<(wide-1)
				checkSpoilt(t, b, ends, at)
				checkSpoilt(t, b, 1<<wide-1, at)
				checkSpoilt(t, b, ends|r.Uint64()&(1<<wide-1), at)
			}
		}
	}
}

// TestLeavesAlone: what is handed in is not changed, spare room included.
func TestLeavesAlone(t *testing.T) {
	whole := slices.Concat([]byte{9, 9}, twoFrames(), []byte{8, 8, 8})
	kept := slices.Clone(whole)
	b := whole[2:15]
	blocks := []api.Block{{Tag: 1, Body: b[:3]}, {Tag: 2}, {Tag: 3, Body: b[3:]}, {Tag: 4, Body: b[:1]}}
	tags := []byte{1, 2, 7}
	frame.Put(7, b[:2])
	frame.Row(blocks[:3]...)
	for cut := range len(b) + 1 {
		frame.Read(b[:cut])
		frame.All(b[:cut])
		frame.Just(b[:cut], tags[:2]...)
		gather(frame.Each(b[:cut]))
	}
	// Lengths that are cut off are asked what could stand behind them.
	for _, place := range []int{3, 4, 5} {
		long := slices.Clone(whole)
		copy(long[2:], []byte{7, 128, 128, 128, 128})
		was := slices.Clone(long)
		frame.Read(long[2 : 2+place])
		if !bytes.Equal(long, was) {
			t.Errorf("%v, were %v", long, was)
		}
	}
	if !bytes.Equal(whole, kept) || !bytes.Equal(tags, []byte{1, 2, 7}) {
		t.Errorf("%v, were %v; tags %v", whole, kept, tags)
	}
	if blocks[1].Body != nil || len(blocks[0].Body) != 3 || blocks[3].Tag != 4 || &blocks[3].Body[0] != &b[0] {
		t.Error("the list of blocks is changed")
	}
}

// TestNewMemory: what was answered may be changed, up to the end of its room, and nothing else changes.
func TestNewMemory(t *testing.T) {
	body := []byte("abc")
	p, _ := frame.Put(7, body)
	w, _ := frame.Row(api.Block{Tag: 1, Body: body}, api.Block{Tag: 2, Body: body})
	was := slices.Clone(w)
	x, _, _ := frame.Read(w)
	l, _, _ := frame.All(w)
	j, _, _ := frame.Just(w, 1, 2)
	e := gather(frame.Each(w))
	spoil := func(b []byte) {
		b = b[:cap(b)]
		for i := range b {
			b[i] = 99
		}
	}
	spoil(p)
	for _, b := range [][]byte{x.Body, l[0].Body, j[0], e[0].block.Body} {
		spoil(b)
	}
	for _, b := range [][]byte{body, l[1].Body, j[1], e[1].block.Body} {
		if string(b) != "abc" {
			t.Errorf("%q is another one's memory", b)
		}
	}
	if !bytes.Equal(w, was) {
		t.Errorf("%v, was %v", w, was)
	}
	spoil(w)
	if string(body) != "abc" || string(l[1].Body) != "abc" || string(j[1]) != "abc" || string(e[1].block.Body) != "abc" {
		t.Error("what was read of a row changes with it")
	}
}

func FuzzAny(f *testing.F) {
	f.Add([]byte{}, []byte{})
	f.Add(twoFrames(), []byte{1, 2})
	f.Add([]byte{7, 128, 128, 128, 128, 1}, []byte{7})
	f.Fuzz(func(t *testing.T, b, tags []byte) {
		checkRow(t, b, tags...)
		checkAgain(t, b)
		// Few bytes have a sum by chance: here they do.
		sealed := rowOf(api.Block{Tag: 1, Body: b}, api.Block{Tag: 2, Body: tags})
		checkRow(t, append(sealed, b...), append([]byte{1, 2}, tags...)...)
		checkAgain(t, sealed)
		checkRead(t, withSum(b...))
	})
}
