package frame_test

import (
	"bytes"
	"encoding/binary"
	"hash/crc32"
	"math"
	"math/rand"
	"slices"
	"testing"

	"keepsake/api"
	"keepsake/frame"
)

// withSum is b with its sum behind it.
func withSum(b ...byte) []byte {
	s := crc32.Checksum(b, crc32.MakeTable(crc32.Castagnoli))
	return binary.LittleEndian.AppendUint32(slices.Clone(b), s)
}

// frameOf is a frame as the chapter words it.
func frameOf(tag byte, body []byte) []byte {
	b := binary.AppendUvarint([]byte{tag}, uint64(len(body)))
	return withSum(append(b, body...)...)
}

// rowOf is the frames of blocks, one behind the other.
func rowOf(blocks ...api.Block) []byte {
	var b []byte
	for _, x := range blocks {
		b = append(b, frameOf(x.Tag, x.Body)...)
	}
	return b
}

// someBytes are n bytes, with others in the spare room behind them.
func someBytes(r *rand.Rand, n int) []byte {
	b := make([]byte, n+r.Intn(9))
	r.Read(b)
	return b[:n]
}

// someBlocks are at most five blocks, of bodies around the lengths at which a frame gets longer.
func someBlocks(r *rand.Rand) []api.Block {
	sizes := []int{0, 0, 1, 2, 3, 5, 31, 126, 127, 128, 129, 300}
	blocks := make([]api.Block, r.Intn(6))
	for i := range blocks {
		blocks[i] = api.Block{Tag: byte(r.Intn(256)), Body: someBytes(r, sizes[r.Intn(len(sizes))])}
	}
	return blocks
}

// sameBlocks tells whether two lists have the same blocks; a body that is nil is one of no bytes.
func sameBlocks(a, b []api.Block) bool {
	return slices.EqualFunc(a, b, func(x, y api.Block) bool { return x.Tag == y.Tag && bytes.Equal(x.Body, y.Body) })
}

func TestSize(t *testing.T) {
	for n, want := range map[int]int{
		0: 6, 1: 7, 2: 8, 127: 133, 128: 135, 129: 136, 16383: 16390, 16384: 16392, 1<<21 - 1: 1<<21 - 1 + 8, 1 << 21: 1<<21 + 9,
		api.MaxFile - 1: api.MaxFile - 1 + 9, api.MaxFile: api.MaxFile + 10, api.MaxFile + 1: 0, math.MaxInt: 0, -1: 0, -128: 0, math.MinInt: 0,
	} {
		if size := frame.Size(n); size != want {
			t.Errorf("Size(%d): %d, want %d", n, size, want)
		}
	}
	body := make([]byte, 20000)
	for n := range body {
		if n > 600 && n < 16300 {
			continue
		}
		if b, e := frame.Put(9, body[:n]); frame.Size(n) != len(b) || e != api.OK {
			t.Errorf("Size(%d): %d, but a frame has %d bytes, %v", n, frame.Size(n), len(b), e)
		}
	}
}

func TestPutExamples(t *testing.T) {
	long := bytes.Repeat([]byte{3}, 300)
	for _, x := range []struct {
		tag  byte
		body []byte
		want []byte
	}{
		{7, nil, withSum(7, 0)}, {7, []byte{}, withSum(7, 0)}, {7, []byte{1, 2}, withSum(7, 2, 1, 2)}, {0, nil, withSum(0, 0)}, {255, []byte{0}, withSum(255, 1, 0)},
		{7, long[:127], withSum(append([]byte{7, 127}, long[:127]...)...)}, {7, long[:128], withSum(append([]byte{7, 128, 1}, long[:128]...)...)},
		{7, long, withSum(append([]byte{7, 172, 2}, long...)...)},
	} {
		if b, e := frame.Put(x.tag, x.body); !bytes.Equal(b, x.want) || e != api.OK {
			t.Errorf("Put(%d, %v): %v, %v, want %v", x.tag, x.body, b, e, x.want)
		}
	}
}

func TestPutOfAny(t *testing.T) {
	r := rand.New(rand.NewSource(1))
	for n := range 400 {
		tag, body := byte(r.Intn(256)), someBytes(r, n)
		if b, e := frame.Put(tag, body); !bytes.Equal(b, frameOf(tag, body)) || e != api.OK {
			t.Errorf("Put(%d, %v): %v, %v", tag, body, b, e)
		}
	}
}

func TestRow(t *testing.T) {
	a := []byte("a")
	for _, x := range []struct {
		blocks []api.Block
		want   []byte
	}{
		{nil, nil}, {[]api.Block{{}}, withSum(0, 0)}, {[]api.Block{{Tag: 1, Body: a}, {Tag: 2}}, append(withSum(1, 1, 97), withSum(2, 0)...)},
		{[]api.Block{{Tag: 2}, {Tag: 1, Body: a}}, append(withSum(2, 0), withSum(1, 1, 97)...)}, {[]api.Block{{Tag: 5}, {Tag: 5}}, append(withSum(5, 0), withSum(5, 0)...)},
	} {
		if b, e := frame.Row(x.blocks...); !bytes.Equal(b, x.want) || e != api.OK {
			t.Errorf("Row of %v: %v, %v, want %v", x.blocks, b, e, x.want)
		}
	}
	r := rand.New(rand.NewSource(2))
	for range 500 {
		blocks := someBlocks(r)
		if b, e := frame.Row(blocks...); !bytes.Equal(b, rowOf(blocks...)) || e != api.OK {
			t.Errorf("Row of %v: %v, %v", blocks, b, e)
		}
	}
}

// TestGreatest: a body may have MaxFile bytes, a row no more with all that stands in it.
func TestGreatest(t *testing.T) {
	body := make([]byte, api.MaxFile+1)
	if b, e := frame.Put(7, body); b != nil || e != api.ErrLong {
		t.Errorf("Put of MaxFile + 1 bytes: %d bytes, %v", len(b), e)
	}
	b, e := frame.Put(7, body[:api.MaxFile])
	if len(b) != api.MaxFile+10 || !bytes.Equal(b[:6], []byte{7, 128, 128, 128, 128, 1}) || e != api.OK {
		t.Fatalf("Put of MaxFile bytes: %d bytes, %v", len(b), e)
	}
	x, size, e := frame.Read(b)
	if x.Tag != 7 || len(x.Body) != api.MaxFile || size != len(b) || e != api.OK {
		t.Errorf("Read of MaxFile bytes: %d, %d bytes, %d, %v", x.Tag, len(x.Body), size, e)
	}
	// It is a row, though a longer one than Row makes.
	if l, size, e := frame.All(b); len(l) != 1 || len(l[0].Body) != api.MaxFile || size != len(b) || e != api.OK {
		t.Errorf("All of MaxFile bytes in a frame: %d blocks, %d, %v", len(l), size, e)
	}
	if x, size, e := frame.Read(b[:len(b)-1]); x.Body != nil || size != 0 || e != api.ErrShort {
		t.Errorf("Read of MaxFile bytes, without the last one: %d bytes, %d, %v", len(x.Body), size, e)
	}
	b[len(b)-5]++
	if x, size, e := frame.Read(b); x.Body != nil || size != 0 || e != api.ErrSum {
		t.Errorf("Read of MaxFile bytes, spoilt: %d bytes, %d, %v", len(x.Body), size, e)
	}
}

func TestGreatestRow(t *testing.T) {
	body := make([]byte, api.MaxFile+1)
	block := func(n int) api.Block { return api.Block{Tag: 3, Body: body[:n]} }
	for _, blocks := range [][]api.Block{
		{block(api.MaxFile + 1)}, {block(1), block(api.MaxFile + 1)}, {block(api.MaxFile)}, {block(api.MaxFile - 8)}, {block(api.MaxFile - 9), block(0)},
		{block(0), block(api.MaxFile - 9)}, {block(api.MaxFile / 2), block(api.MaxFile / 2)}, slices.Repeat([]api.Block{block(1 << 10)}, 1<<18), slices.Repeat([]api.Block{block(api.MaxFile)}, 1000),
	} {
		if b, e := frame.Row(blocks...); b != nil || e != api.ErrLong {
			t.Errorf("Row of %d blocks, the first of %d bytes: %d bytes, %v", len(blocks), len(blocks[0].Body), len(b), e)
		}
	}
	for _, blocks := range [][]api.Block{{block(api.MaxFile - 9)}, {block(0), block(api.MaxFile - 15)}} {
		if b, e := frame.Row(blocks...); len(b) != api.MaxFile || e != api.OK {
			t.Errorf("Row of %d blocks, MaxFile bytes: %d bytes, %v", len(blocks), len(b), e)
		}
	}
}
