package wire_test

import (
	"bytes"
	"math"
	"math/big"
	"math/rand"
	"slices"
	"testing"

	"keepsake/api"
	"keepsake/wire"
)

// form is the number form of x as the chapter words it, by division.
func form(x *big.Int) []byte {
	rest, base, digit := new(big.Int).Set(x), big.NewInt(128), new(big.Int)
	var b []byte
	for {
		rest.DivMod(rest, base, digit)
		if rest.Sign() == 0 {
			return append(b, byte(digit.Uint64()))
		}
		b = append(b, byte(digit.Uint64()+128))
	}
}

// signedForm is the signed form of x as the chapter words it, reckoned without bound.
func signedForm(x int64) []byte {
	y := new(big.Int).Mul(big.NewInt(x), big.NewInt(2))
	if x < 0 {
		y.Neg(y).Sub(y, big.NewInt(1))
	}
	return form(y)
}

// numberForm is the number form of x.
func numberForm(x uint64) []byte { return form(new(big.Int).SetUint64(x)) }

// risingForm is the rising form of l, which rises.
func risingForm(l []int64) []byte {
	b := numberForm(uint64(len(l)))
	for i, x := range l {
		if i == 0 {
			b = append(b, signedForm(x)...)
			continue
		}
		d := new(big.Int).Sub(big.NewInt(x), big.NewInt(l[i-1]))
		b = append(b, form(d.Sub(d, big.NewInt(1)))...)
	}
	return b
}

// edges are the numbers around each power of two, and some in between.
func edges() []uint64 {
	l := []uint64{0, 1, 2, 300, math.MaxUint64}
	for i := range 64 {
		p := uint64(1) << i
		l = append(l, p-1, p, p+1)
	}
	r := rand.New(rand.NewSource(1))
	for range 500 {
		l = append(l, r.Uint64()>>r.Intn(64))
	}
	return l
}

// longest is the form of 2^64 - 1.
func longest() []byte { return append(bytes.Repeat([]byte{255}, 9), 1) }

// written is what one call writes, with its error.
func written(put func(w *wire.Writer) api.Errno) ([]byte, api.Errno) {
	w := wire.NewWriter()
	e := put(w)
	return w.Bytes(), e
}

func TestWriteExamples(t *testing.T) {
	for _, x := range []struct {
		name string
		put  func(w *wire.Writer) api.Errno
		want []byte
	}{
		{"Byte()", func(w *wire.Writer) api.Errno { return w.Byte() }, nil},
		{"Byte(0)", func(w *wire.Writer) api.Errno { return w.Byte(0) }, []byte{0}},
		{"Byte(255, 0, 7)", func(w *wire.Writer) api.Errno { return w.Byte(255, 0, 7) }, []byte{255, 0, 7}},
		{"Number(0)", func(w *wire.Writer) api.Errno { return w.Number(0) }, []byte{0}},
		{"Number(127)", func(w *wire.Writer) api.Errno { return w.Number(127) }, []byte{127}},
		{"Number(128)", func(w *wire.Writer) api.Errno { return w.Number(128) }, []byte{128, 1}},
		{"Number(300)", func(w *wire.Writer) api.Errno { return w.Number(300) }, []byte{172, 2}},
		{"Number(2^64 - 1)", func(w *wire.Writer) api.Errno { return w.Number(math.MaxUint64) }, longest()},
		{"Signed(0)", func(w *wire.Writer) api.Errno { return w.Signed(0) }, []byte{0}},
		{"Signed(-1)", func(w *wire.Writer) api.Errno { return w.Signed(-1) }, []byte{1}},
		{"Signed(1)", func(w *wire.Writer) api.Errno { return w.Signed(1) }, []byte{2}},
		{"Signed(-2^63)", func(w *wire.Writer) api.Errno { return w.Signed(math.MinInt64) }, longest()},
		{"Text()", func(w *wire.Writer) api.Errno { return w.Text("") }, []byte{0}},
		{"Text(ab)", func(w *wire.Writer) api.Errno { return w.Text("ab") }, []byte{2, 97, 98}},
		{"Text(no runes)", func(w *wire.Writer) api.Errno { return w.Text("\xff\x00") }, []byte{2, 255, 0}},
		{"Fixed(0)", func(w *wire.Writer) api.Errno { return w.Fixed(0) }, []byte{0, 0, 0, 0}},
		{"Fixed(258)", func(w *wire.Writer) api.Errno { return w.Fixed(258) }, []byte{2, 1, 0, 0}},
		{"Fixed(04030201)", func(w *wire.Writer) api.Errno { return w.Fixed(0x04030201) }, []byte{1, 2, 3, 4}},
		{"Fixed(2^32 - 1)", func(w *wire.Writer) api.Errno { return w.Fixed(math.MaxUint32) }, []byte{255, 255, 255, 255}},
		{"Rising()", func(w *wire.Writer) api.Errno { return w.Rising() }, []byte{0}},
		{"Rising(-1)", func(w *wire.Writer) api.Errno { return w.Rising(-1) }, []byte{1, 1}},
		{"Rising(-1, 0, 5)", func(w *wire.Writer) api.Errno { return w.Rising(-1, 0, 5) }, []byte{3, 1, 0, 4}},
	} {
		b, e := written(x.put)
		if e != api.OK || !bytes.Equal(b, x.want) {
			t.Errorf("%s: %v, %v, want %v", x.name, b, e, x.want)
		}
	}
}

func TestWriteNumbers(t *testing.T) {
	for _, x := range edges() {
		if b, e := written(func(w *wire.Writer) api.Errno { return w.Number(x) }); e != api.OK || !bytes.Equal(b, numberForm(x)) {
			t.Errorf("Number(%d): %v, %v", x, b, e)
		}
		s := int64(x)
		if b, e := written(func(w *wire.Writer) api.Errno { return w.Signed(s) }); e != api.OK || !bytes.Equal(b, signedForm(s)) {
			t.Errorf("Signed(%d): %v, %v", s, b, e)
		}
	}
}

func TestWriteLongText(t *testing.T) {
	for _, n := range []int{127, 128, 16383, 16384, 1 << 20} {
		s := bytes.Repeat([]byte{'x'}, n)
		b, e := written(func(w *wire.Writer) api.Errno { return w.Text(string(s)) })
		if e != api.OK || !bytes.Equal(b, append(numberForm(uint64(n)), s...)) {
			t.Errorf("a text of %d bytes: %v", n, e)
		}
	}
}

// risingLists are lists that rise, the widest steps among them.
func risingLists() [][]int64 {
	lists := [][]int64{
		nil, {}, {0}, {math.MinInt64}, {math.MaxInt64}, {math.MinInt64, math.MaxInt64}, {math.MinInt64, -1, 0, math.MaxInt64},
		{math.MinInt64, math.MinInt64 + 1}, {math.MaxInt64 - 1, math.MaxInt64}, {-1, math.MaxInt64}, {-3, -2, 126, 254, 383},
	}
	r := rand.New(rand.NewSource(2))
	for range 200 {
		l := make([]int64, r.Intn(150))
		for i := range l {
			l[i] = int64(r.Uint64()) >> r.Intn(64)
		}
		slices.Sort(l)
		lists = append(lists, slices.Compact(l))
	}
	return lists
}

func TestWriteRising(t *testing.T) {
	for _, l := range risingLists() {
		b, e := written(func(w *wire.Writer) api.Errno { return w.Rising(l...) })
		if e != api.OK || !bytes.Equal(b, risingForm(l)) {
			t.Errorf("Rising(%v): %v, %v", l, b, e)
		}
	}
}

func TestWriteRisingRefused(t *testing.T) {
	for _, l := range [][]int64{
		{1, 1}, {1, 0}, {0, 1, 1}, {0, 2, 1}, {0, 1, 2, -5}, {math.MaxInt64, math.MinInt64}, {math.MinInt64, math.MinInt64}, {-1, -1},
	} {
		w := wire.NewWriter()
		w.Byte(7, 8)
		if e := w.Rising(l...); e != api.ErrRising || w.Len() != 2 || !bytes.Equal(w.Bytes(), []byte{7, 8}) {
			t.Errorf("Rising(%v): %v, and %v stand there", l, e, w.Bytes())
		}
		if w.Number(300); !bytes.Equal(w.Bytes(), []byte{7, 8, 172, 2}) {
			t.Errorf("behind a refused list: %v", w.Bytes())
		}
	}
}

func TestWriteBehind(t *testing.T) {
	w, want := wire.NewWriter(), []byte(nil)
	for _, x := range []struct {
		e    api.Errno
		more []byte
	}{
		{w.Byte(9, 8), []byte{9, 8}}, {w.Number(128), []byte{128, 1}}, {w.Signed(-65), []byte{129, 1}}, {w.Text("a"), []byte{1, 97}},
		{w.Fixed(1), []byte{1, 0, 0, 0}}, {w.Rising(3, 9), []byte{2, 6, 5}}, {w.Byte(), nil},
	} {
		want = append(want, x.more...)
		if x.e != api.OK {
			t.Errorf("an error: %v", x.e)
		}
	}
	if !bytes.Equal(w.Bytes(), want) || w.Len() != len(want) {
		t.Errorf("%v (%d), want %v", w.Bytes(), w.Len(), want)
	}
}

func TestZeroWriter(t *testing.T) {
	var w wire.Writer
	if w.Len() != 0 || len(w.Bytes()) != 0 {
		t.Error("a zero writer has bytes")
	}
	if e := w.Text("ab"); e != api.OK || w.Len() != 3 || !bytes.Equal(w.Bytes(), []byte{2, 97, 98}) {
		t.Errorf("a zero writer: %v, %v", w.Bytes(), e)
	}
	if n := wire.NewWriter(); n == nil || n.Len() != 0 || len(n.Bytes()) != 0 {
		t.Error("a new writer has bytes")
	}
}

func TestNilWriter(t *testing.T) {
	var w *wire.Writer
	for i, e := range []api.Errno{
		w.Byte(), w.Byte(1), w.Number(1), w.Signed(1), w.Text("a"), w.Fixed(1), w.Rising(), w.Rising(1), w.Rising(1, 1),
	} {
		if e != api.ErrNil {
			t.Errorf("call %d of a nil writer: %v", i, e)
		}
	}
	if w.Len() != 0 || len(w.Bytes()) != 0 {
		t.Error("a nil writer has bytes")
	}
}

func TestWritersApart(t *testing.T) {
	a, b := wire.NewWriter(), wire.NewWriter()
	for i := range 100 {
		a.Byte(byte(i))
		b.Byte(byte(200 - i))
	}
	for i := range 100 {
		if a.Bytes()[i] != byte(i) || b.Bytes()[i] != byte(200-i) {
			t.Fatal("two writers have to do with one another")
		}
	}
}

func TestWriterMemory(t *testing.T) {
	in := append(make([]byte, 0, 8), 1, 2, 3)
	w := wire.NewWriter()
	w.Byte(in...)
	w.Byte(9)
	if !bytes.Equal(in[:8], []byte{1, 2, 3, 0, 0, 0, 0, 0}) {
		t.Error("what was handed in is changed")
	}
	in[0] = 77
	list := append(make([]int64, 0, 4), 1, 2)
	w.Rising(list...)
	if !slices.Equal(list[:4], []int64{1, 2, 0, 0}) {
		t.Error("a list that was handed in is changed")
	}
	list[0] = 0
	want := []byte{1, 2, 3, 9, 2, 2, 0}
	first := w.Bytes()
	second := w.Bytes()
	if !bytes.Equal(first, want) {
		t.Errorf("what was handed in is kept: %v", first)
	}
	for i := range first[:cap(first)] {
		first[:cap(first)][i] = 55
	}
	if !bytes.Equal(w.Bytes(), want) || !bytes.Equal(second, want) {
		t.Error("an answer shares memory")
	}
	w.Byte(4)
	if !bytes.Equal(second, want) || !bytes.Equal(w.Bytes(), append(want, 4)) {
		t.Error("an answer grows with the writer")
	}
}

func TestByteOfOwnBytes(t *testing.T) {
	w := wire.NewWriter()
	w.Byte(1, 2)
	for range 3 {
		w.Byte(w.Bytes()...)
	}
	if !bytes.Equal(w.Bytes(), bytes.Repeat([]byte{1, 2}, 8)) {
		t.Errorf("%v", w.Bytes())
	}
}

func TestSize(t *testing.T) {
	for _, x := range edges() {
		if n := wire.Size(x); n != len(numberForm(x)) {
			t.Errorf("Size(%d) is %d", x, n)
		}
	}
	for _, x := range []struct {
		x uint64
		n int
	}{{0, 1}, {127, 1}, {128, 2}, {1<<63 - 1, 9}, {1 << 63, 10}, {math.MaxUint64, 10}} {
		if n := wire.Size(x.x); n != x.n {
			t.Errorf("Size(%d) is %d", x.x, n)
		}
	}
}
