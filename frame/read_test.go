package frame_test

import (
	"bytes"
	"encoding/binary"
	"hash/crc32"
	"math/rand"
	"runtime"
	"slices"
	"testing"

	"keepsake/api"
	"keepsake/frame"
)

// lengthForm is the form of a length.
func lengthForm(n int) []byte { return binary.AppendUvarint(nil, uint64(n)) }

// lengthAhead is the length from 0 to MaxFile with whose form b begins, and how many bytes that has; of none 0, 0.
func lengthAhead(b []byte) (int, int) {
	for size := 1; size <= min(len(b), 5); size++ {
		n := 0
		for i := range size {
			n += int(b[i]%128) << (7 * i)
		}
		if n <= api.MaxFile && bytes.Equal(lengthForm(n), b[:size]) {
			return n, size
		}
	}
	return 0, 0
}

// beginsLength tells whether all of b is less than the form of some length from 0 to MaxFile, and its beginning.
func beginsLength(b []byte) bool {
	if len(b) > 4 {
		return false
	}
	low := 0
	for i, c := range b {
		low += int(c%128) << (7 * i)
	}
	// Forms that begin alike are those of numbers that differ by multiples of 128 to the power of so many bytes. If one that is two or more bytes longer is a length's, so is one that is one byte longer, for that number is less.
	for i := range 128 {
		n := low + i<<(7*len(b))
		if form := lengthForm(n); n <= api.MaxFile && len(form) > len(b) && bytes.HasPrefix(form, b) {
			return true
		}
	}
	return false
}

// readOf is what Read must answer, as the chapter words it.
func readOf(b []byte) (api.Block, int, api.Errno) {
	if len(b) == 0 {
		return api.Block{}, 0, api.ErrShort
	}
	n, form := lengthAhead(b[1:])
	if form == 0 && beginsLength(b[1:]) {
		return api.Block{}, 0, api.ErrShort
	}
	if form == 0 {
		return api.Block{}, 0, api.ErrLength
	}
	sumAt := 1 + form + n
	if len(b) < sumAt+4 {
		return api.Block{}, 0, api.ErrShort
	}
	if crc32.Checksum(b[:sumAt], crc32.MakeTable(crc32.Castagnoli)) != binary.LittleEndian.Uint32(b[sumAt:]) {
		return api.Block{}, 0, api.ErrSum
	}
	return api.Block{Tag: b[0], Body: b[1+form : sumAt]}, sumAt + 4, api.OK
}

func checkRead(t *testing.T, b []byte) {
	t.Helper()
	want, n, e := readOf(b)
	got, m, f := frame.Read(b)
	if got.Tag != want.Tag || !bytes.Equal(got.Body, want.Body) || m != n || f != e {
		t.Errorf("Read(%v): %v, %d, %v, want %v, %d, %v", b, got, m, f, want, n, e)
	}
}

func TestReadExamples(t *testing.T) {
	good := withSum(7, 2, 1, 2)
	for _, x := range []struct {
		name string
		b    []byte
		want api.Block
		size int
		e    api.Errno
	}{
		{"one with a byte behind it", append(slices.Clone(good), 9), api.Block{Tag: 7, Body: []byte{1, 2}}, 8, api.OK},
		{"one without its last byte", good[:7], api.Block{}, 0, api.ErrShort}, {"none", nil, api.Block{}, 0, api.ErrShort},
		{"an empty one", []byte{}, api.Block{}, 0, api.ErrShort}, {"a tag", []byte{7}, api.Block{}, 0, api.ErrShort},
		{"a nought of two bytes", []byte{7, 128, 0}, api.Block{}, 0, api.ErrLength}, {"the same, and more", withSum(7, 128, 0), api.Block{}, 0, api.ErrLength},
		{"above MaxFile", []byte{7, 255, 255, 255, 255, 15}, api.Block{}, 0, api.ErrLength}, {"far above", withSum(7, 255, 255, 255, 255, 15, 1, 2, 3), api.Block{}, 0, api.ErrLength},
		{"another body", slices.Concat([]byte{7, 2, 1, 3}, good[4:]), api.Block{}, 0, api.ErrSum},
		{"no body", withSum(7, 0), api.Block{Tag: 7}, 6, api.OK}, {"all noughts", make([]byte, 9), api.Block{}, 0, api.ErrSum},
		{"the greatest length, alone", []byte{7, 128, 128, 128, 128, 1}, api.Block{}, 0, api.ErrShort}, {"one more", []byte{7, 129, 128, 128, 128, 1}, api.Block{}, 0, api.ErrLength},
		{"the least one of five bytes, cut off", []byte{7, 128, 128, 128, 128}, api.Block{}, 0, api.ErrShort}, {"one more, cut off", []byte{7, 129, 128, 128, 128}, api.Block{}, 0, api.ErrLength},
		{"of four bytes, cut off", []byte{7, 255, 255, 255}, api.Block{}, 0, api.ErrShort}, {"the greatest one of four bytes", []byte{7, 255, 255, 255, 127}, api.Block{}, 0, api.ErrShort},
		{"of six bytes, cut off", []byte{7, 128, 128, 128, 128, 128}, api.Block{}, 0, api.ErrLength}, {"five bytes that end with a nought", []byte{7, 128, 128, 128, 128, 0}, api.Block{}, 0, api.ErrLength},
		{"ten bytes", append([]byte{7}, bytes.Repeat([]byte{255}, 10)...), api.Block{}, 0, api.ErrLength},
		{"2^64 - 1", append(append([]byte{7}, bytes.Repeat([]byte{255}, 9)...), 1), api.Block{}, 0, api.ErrLength},
		{"2^63", append(append([]byte{7}, bytes.Repeat([]byte{128}, 9)...), 1), api.Block{}, 0, api.ErrLength},
	} {
		got, n, e := frame.Read(x.b)
		if got.Tag != x.want.Tag || !bytes.Equal(got.Body, x.want.Body) || n != x.size || e != x.e {
			t.Errorf("Read of %s: %v, %d, %v", x.name, got, n, e)
		}
		checkRead(t, x.b)
	}
}

func TestReadOfAllShort(t *testing.T) {
	for i := range 256 {
		checkRead(t, []byte{byte(i)})
		for j := range 256 {
			checkRead(t, []byte{byte(i), byte(j)})
			checkRead(t, []byte{7, byte(i), byte(j)})
		}
	}
}

// TestReadOfLengths: all that can stand behind a tag, of bytes at which something changes.
func TestReadOfLengths(t *testing.T) {
	odd := []byte{0, 1, 2, 127, 128, 129, 255}
	var try func(b []byte)
	try = func(b []byte) {
		checkRead(t, b)
		if len(b) == 7 {
			return
		}
		for _, c := range odd {
			try(append(slices.Clone(b), c))
		}
	}
	try([]byte{7})
}

// TestReadCutOff: a frame that ends too early, at each byte.
func TestReadCutOff(t *testing.T) {
	r := rand.New(rand.NewSource(3))
	for _, n := range []int{0, 1, 2, 126, 127, 128, 129, 300, 16383, 16384} {
		b := frameOf(byte(r.Intn(256)), someBytes(r, n))
		for cut := range b {
			if x, size, e := frame.Read(b[:cut]); x.Tag != 0 || x.Body != nil || size != 0 || e != api.ErrShort {
				t.Fatalf("Read of a body of %d bytes, cut off at %d: %v, %d, %v", n, cut, x, size, e)
			}
		}
		checkRead(t, b)
	}
}

func TestReadOfAnyBytes(t *testing.T) {
	r := rand.New(rand.NewSource(4))
	for range 20000 {
		b := rowOf(someBlocks(r)...)
		for range r.Intn(3) {
			if i := r.Intn(400); i < len(b) {
				b[i] = byte(r.Intn(256))
			}
		}
		checkRead(t, b)
		checkRead(t, b[:r.Intn(len(b)+1)])
		checkRead(t, someBytes(r, r.Intn(20)))
	}
}

// TestReadOfAnotherForm: a length in more bytes than it needs, though the sum says that it is meant.
func TestReadOfAnotherForm(t *testing.T) {
	for _, form := range [][]byte{{128, 0}, {130, 0}, {130, 128, 0}, {130, 128, 128, 128, 0}, {130, 128, 128, 128, 128, 128, 128, 128, 128, 0}} {
		b := withSum(slices.Concat([]byte{7}, form, []byte{1, 2})...)
		if x, n, e := frame.Read(b); x.Tag != 0 || x.Body != nil || n != 0 || e != api.ErrLength {
			t.Errorf("Read of the length %v: %v, %d, %v", form, x, n, e)
		}
	}
}

// TestReadOfTurnedSum: the sum's lowest byte comes first, and it is that of the tag and the length, too.
func TestReadOfTurnedSum(t *testing.T) {
	for i := range 8 {
		b := withSum(byte(i), 3, 1, 2, 3)
		turned := slices.Clone(b)
		slices.Reverse(turned[5:])
		bare := append(slices.Clone(b[:5]), withSum(1, 2, 3)[3:]...)
		tagless := append(slices.Clone(b[:5]), withSum(3, 1, 2, 3)[4:]...)
		for _, other := range [][]byte{turned, bare, tagless} {
			if _, n, e := frame.Read(other); n != 0 || e != api.ErrSum {
				t.Errorf("Read(%v): %d, %v", other, n, e)
			}
		}
	}
}

// TestReadTakesLittle: what stands behind a frame is not looked at, and a length that lies takes no room.
func TestReadTakesLittle(t *testing.T) {
	behind := append(withSum(7, 2, 1, 2), make([]byte, 1<<20)...)
	lie := append([]byte{7, 255, 255, 255, 127}, make([]byte, 1<<20)...)
	var ahead, then runtime.MemStats
	runtime.ReadMemStats(&ahead)
	for range 100 {
		if _, n, e := frame.Read(behind); n != 8 || e != api.OK {
			t.Fatal(n, e)
		}
		if _, n, e := frame.Read(lie); n != 0 || e != api.ErrShort {
			t.Fatal(n, e)
		}
	}
	runtime.ReadMemStats(&then)
	if took := then.TotalAlloc - ahead.TotalAlloc; took > 1<<20 {
		t.Errorf("200 frames of two bytes took %d bytes", took)
	}
}
