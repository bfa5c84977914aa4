package wire_test

import (
	"bytes"
	"math"
	"math/rand"
	"slices"
	"testing"

	"keepsake/api"
	"keepsake/wire"
)

// call is something that is written and read again.
type call struct {
	put func(w *wire.Writer) api.Errno
	get func(r *wire.Reader) (bool, api.Errno)
}

func anyNumber(r *rand.Rand) uint64 { return r.Uint64() >> r.Intn(64) }

func anyCall(r *rand.Rand) call {
	x, lists := anyNumber(r), risingListOf(r)
	text := string(bytes.Repeat([]byte{byte(x)}, r.Intn(300)))
	return []call{
		{func(w *wire.Writer) api.Errno { return w.Byte(byte(x)) },
			func(r *wire.Reader) (bool, api.Errno) { y, e := r.Byte(); return y == byte(x), e }},
		{func(w *wire.Writer) api.Errno { return w.Byte([]byte(text)...) },
			func(r *wire.Reader) (bool, api.Errno) { y, e := r.Raw(len(text)); return string(y) == text, e }},
		{func(w *wire.Writer) api.Errno { return w.Number(x) },
			func(r *wire.Reader) (bool, api.Errno) { y, e := r.Number(); return y == x, e }},
		{func(w *wire.Writer) api.Errno { return w.Signed(int64(x)) },
			func(r *wire.Reader) (bool, api.Errno) { y, e := r.Signed(); return y == int64(x), e }},
		{func(w *wire.Writer) api.Errno { return w.Text(text) },
			func(r *wire.Reader) (bool, api.Errno) { y, e := r.Text(len(text)); return y == text, e }},
		{func(w *wire.Writer) api.Errno { return w.Fixed(uint32(x)) },
			func(r *wire.Reader) (bool, api.Errno) { y, e := r.Fixed(); return y == uint32(x), e }},
		{func(w *wire.Writer) api.Errno { return w.Rising(lists...) },
			func(r *wire.Reader) (bool, api.Errno) {
				y, e := r.Rising(len(lists))
				return slices.Equal(y, lists), e
			}},
	}[r.Intn(7)]
}

func risingListOf(r *rand.Rand) []int64 {
	l := make([]int64, r.Intn(20))
	for i := range l {
		l[i] = int64(anyNumber(r)) * int64(1-2*r.Intn(2))
	}
	slices.Sort(l)
	return slices.Compact(l)
}

func TestWrittenIsRead(t *testing.T) {
	r := rand.New(rand.NewSource(4))
	for range 300 {
		calls := make([]call, r.Intn(40))
		w := wire.NewWriter()
		for i := range calls {
			calls[i] = anyCall(r)
			if e := calls[i].put(w); e != api.OK {
				t.Fatalf("to write: %v", e)
			}
		}
		in := wire.NewReader(w.Bytes())
		for i, c := range calls {
			if same, e := c.get(in); !same || e != api.OK {
				t.Fatalf("call %d of %d: %v, %v", i, len(calls), same, e)
			}
		}
		if in.Left() != 0 || in.Place() != w.Len() {
			t.Fatalf("left are %d of %d", in.Left(), w.Len())
		}
	}
}

func TestRisingListsAreRead(t *testing.T) {
	for _, l := range risingLists() {
		w := wire.NewWriter()
		w.Rising(l...)
		r := wire.NewReader(w.Bytes())
		if y, e := r.Rising(len(l)); e != api.OK || !slices.Equal(y, l) || r.Left() != 0 {
			t.Errorf("%v: %v, %v", l, y, e)
		}
	}
}

func TestFormsApart(t *testing.T) {
	l := edges()
	slices.Sort(l)
	l = slices.Compact(l)
	forms := make([][]byte, len(l))
	for i, x := range l {
		forms[i], _ = written(func(w *wire.Writer) api.Errno { return w.Number(x) })
		if i > 0 && len(forms[i]) < len(forms[i-1]) {
			t.Errorf("the form of %d is shorter than that of %d", x, l[i-1])
		}
	}
	for i := range forms {
		for j := range forms {
			if i != j && bytes.HasPrefix(forms[j], forms[i]) {
				t.Errorf("the form of %d begins that of %d", l[i], l[j])
			}
		}
	}
}

// again reads b by the call that way names, and writes what was read.
func again(way byte, r *wire.Reader, w *wire.Writer) api.Errno {
	switch way % 7 {
	case 0:
		x, e := r.Byte()
		if e == api.OK {
			w.Byte(x)
		}
		return e
	case 1:
		x, e := r.Number()
		if e == api.OK {
			w.Number(x)
		}
		return e
	case 2:
		x, e := r.Signed()
		if e == api.OK {
			w.Signed(x)
		}
		return e
	case 3:
		x, e := r.Text(math.MaxInt)
		if e == api.OK {
			w.Text(x)
		}
		return e
	case 4:
		x, e := r.Raw(int(way) % 5)
		if e == api.OK {
			w.Byte(x...)
		}
		return e
	case 5:
		x, e := r.Fixed()
		if e == api.OK {
			w.Fixed(x)
		}
		return e
	}
	x, e := r.Rising(math.MaxInt)
	if e == api.OK && w.Rising(x...) != api.OK {
		return api.ErrRising
	}
	return e
}

// checkAgain reads b by ways, and holds what is written again against what was read.
func checkAgain(t *testing.T, ways, b []byte) {
	t.Helper()
	r, w := wire.NewReader(b), wire.NewWriter()
	for _, way := range ways {
		place := r.Place()
		e := again(way, r, w)
		if e != api.OK && r.Place() != place {
			t.Fatalf("%v by %v: refused by %v, yet read", b, ways, e)
		}
		if r.Place()+r.Left() != len(b) || !bytes.Equal(w.Bytes(), b[:r.Place()]) {
			t.Fatalf("%v by %v: written again %v, place %d", b, ways, w.Bytes(), r.Place())
		}
	}
}

func TestReadIsWrittenAgain(t *testing.T) {
	r := rand.New(rand.NewSource(5))
	odd := []byte{0, 1, 2, 3, 4, 127, 128, 129, 255}
	for range 20000 {
		ways, b := make([]byte, r.Intn(8)), make([]byte, r.Intn(30))
		r.Read(ways)
		for i := range b {
			b[i] = odd[r.Intn(len(odd))]
		}
		checkAgain(t, ways, b)
	}
}

func FuzzReadIsWrittenAgain(f *testing.F) {
	f.Add([]byte{6, 3, 1}, []byte{3, 1, 0, 4, 2, 97, 98, 172, 2})
	f.Add([]byte{6}, append([]byte{2}, append(longest(), longest()...)...))
	f.Add([]byte{2, 5, 4}, append(longest(), 1, 2, 3, 4, 5, 6, 7, 8))
	f.Fuzz(func(t *testing.T, ways, b []byte) {
		checkAgain(t, ways, b)
		checkNumber(t, b)
	})
}
