package wire_test

import (
	"bytes"
	"math"
	"math/big"
	"math/rand"
	"runtime"
	"slices"
	"testing"

	"keepsake/api"
	"keepsake/wire"
)

// isForm tells whether b is some number's form, and of which.
func isForm(b []byte) (uint64, bool) {
	x := new(big.Int)
	for i := len(b) - 1; i >= 0; i-- {
		x.Mul(x, big.NewInt(128)).Add(x, big.NewInt(int64(b[i]%128)))
	}
	return x.Uint64(), x.IsUint64() && bytes.Equal(form(x), b)
}

// readNumber is what Number must answer, and how many bytes it reads, as the chapter words it.
func readNumber(b []byte) (uint64, int, api.Errno) {
	for n := 1; n <= len(b); n++ {
		if x, ok := isForm(b[:n]); ok {
			return x, n, api.OK
		}
	}
	// If any bytes behind b make a form of it, then this one does, or one with a few bytes of 128 ahead of it.
	for more := []byte{1}; len(more) <= 10; more = append([]byte{128}, more...) {
		if _, ok := isForm(append(slices.Clone(b), more...)); ok {
			return 0, 0, api.ErrEnd
		}
	}
	return 0, 0, api.ErrForm
}

func checkNumber(t *testing.T, b []byte) {
	t.Helper()
	x, n, e := readNumber(b)
	r := wire.NewReader(b)
	if y, f := r.Number(); y != x || f != e || r.Place() != n || r.Left() != len(b)-n {
		t.Errorf("Number of %v: %d, %v, place %d, left %d; want %d, %v, place %d", b, y, f, r.Place(), r.Left(), x, e, n)
	}
	r = wire.NewReader(b)
	y, f := r.Signed()
	if f != e || r.Place() != n || r.Left() != len(b)-n || e != api.OK && y != 0 {
		t.Errorf("Signed of %v: %d, %v, place %d", b, y, f, r.Place())
	}
	if e == api.OK && !bytes.Equal(signedForm(y), b[:n]) {
		t.Errorf("Signed of %v: %d", b, y)
	}
}

func TestNumberExamples(t *testing.T) {
	nine := bytes.Repeat([]byte{255}, 9)
	for _, x := range []struct {
		b    []byte
		want uint64
		e    api.Errno
	}{
		{nil, 0, api.ErrEnd}, {[]byte{128}, 0, api.ErrEnd}, {[]byte{128, 0}, 0, api.ErrForm}, {[]byte{128, 128, 1}, 16384, api.OK},
		{append(slices.Clone(nine), 2), 0, api.ErrForm}, {append(slices.Clone(nine), 255), 0, api.ErrForm}, {nine, 0, api.ErrEnd},
		{append(slices.Clone(nine), 0), 0, api.ErrForm}, {append(slices.Clone(nine), 128), 0, api.ErrForm},
		{append(slices.Clone(nine), 129, 0), 0, api.ErrForm}, {append(slices.Clone(nine), 1), math.MaxUint64, api.OK},
		{append(slices.Clone(nine), 1, 0), math.MaxUint64, api.OK}, {[]byte{0}, 0, api.OK}, {[]byte{0, 128}, 0, api.OK}, {[]byte{5, 0}, 5, api.OK},
	} {
		r := wire.NewReader(x.b)
		if n, e := r.Number(); n != x.want || e != x.e || e != api.OK && r.Place() != 0 {
			t.Errorf("Number of %v: %d, %v", x.b, n, e)
		}
	}
	for _, x := range []struct {
		b    []byte
		want int64
	}{{[]byte{0}, 0}, {[]byte{1}, -1}, {[]byte{2}, 1}, {longest(), math.MinInt64}, {append([]byte{254}, longest()[1:]...), math.MaxInt64}} {
		if n, e := wire.NewReader(x.b).Signed(); n != x.want || e != api.OK {
			t.Errorf("Signed of %v: %d, %v", x.b, n, e)
		}
	}
}

func TestNumberOfAllShort(t *testing.T) {
	checkNumber(t, nil)
	for i := range 256 {
		checkNumber(t, []byte{byte(i)})
		for j := range 256 {
			checkNumber(t, []byte{byte(i), byte(j)})
		}
	}
}

func TestNumberOfAnyBytes(t *testing.T) {
	odd := []byte{0, 1, 2, 3, 127, 128, 129, 254, 255}
	r := rand.New(rand.NewSource(3))
	for range 20000 {
		b := make([]byte, r.Intn(13))
		high := r.Intn(len(b) + 1) // long forms are rare unless their beginning is made
		for i := range b {
			b[i] = odd[r.Intn(len(odd))]
			if i < high {
				b[i] |= 128
			}
		}
		checkNumber(t, b)
	}
}

func TestNumberBehind(t *testing.T) {
	r := wire.NewReader([]byte{5, 172, 2, 128, 0})
	for _, x := range []struct {
		n     uint64
		e     api.Errno
		place int
	}{{5, api.OK, 1}, {300, api.OK, 3}, {0, api.ErrForm, 3}, {0, api.ErrForm, 3}} {
		if n, e := r.Number(); n != x.n || e != x.e || r.Place() != x.place || r.Left() != 5-x.place {
			t.Errorf("%d, %v, place %d; want %v", n, e, r.Place(), x)
		}
	}
	if b, e := r.Byte(); b != 128 || e != api.OK {
		t.Errorf("behind a number that is refused: %d, %v", b, e)
	}
}

func TestReadByte(t *testing.T) {
	r := wire.NewReader([]byte{7, 255})
	for _, x := range []struct {
		b           byte
		e           api.Errno
		place, left int
	}{{7, api.OK, 1, 1}, {255, api.OK, 2, 0}, {0, api.ErrEnd, 2, 0}, {0, api.ErrEnd, 2, 0}} {
		if b, e := r.Byte(); b != x.b || e != x.e || r.Place() != x.place || r.Left() != x.left {
			t.Errorf("%d, %v, place %d, left %d; want %v", b, e, r.Place(), r.Left(), x)
		}
	}
}

func TestReadRaw(t *testing.T) {
	r := wire.NewReader([]byte{1, 2, 3, 4, 5})
	for _, x := range []struct {
		n     int
		want  []byte
		e     api.Errno
		place int
	}{
		{2, []byte{1, 2}, api.OK, 2}, {0, nil, api.OK, 2}, {-1, nil, api.ErrArg, 2}, {math.MinInt, nil, api.ErrArg, 2}, {4, nil, api.ErrEnd, 2},
		{math.MaxInt, nil, api.ErrEnd, 2}, {3, []byte{3, 4, 5}, api.OK, 5}, {1, nil, api.ErrEnd, 5}, {0, nil, api.OK, 5}, {-1, nil, api.ErrArg, 5},
	} {
		b, e := r.Raw(x.n)
		if e != x.e || !bytes.Equal(b, x.want) || r.Place() != x.place || r.Left() != 5-x.place || e != api.OK && b != nil {
			t.Errorf("Raw(%d): %v, %v, place %d; want %v", x.n, b, e, r.Place(), x)
		}
	}
}

func TestReadFixed(t *testing.T) {
	r := wire.NewReader([]byte{2, 1, 0, 0, 255, 255, 255, 255, 1, 2, 3, 4, 5, 6, 7})
	for _, want := range []uint32{258, math.MaxUint32, 0x04030201} {
		if x, e := r.Fixed(); x != want || e != api.OK {
			t.Errorf("Fixed: %d, %v, want %d", x, e, want)
		}
	}
	if x, e := r.Fixed(); x != 0 || e != api.ErrEnd || r.Place() != 12 || r.Left() != 3 {
		t.Errorf("Fixed of three bytes: %d, %v, place %d", x, e, r.Place())
	}
}

func TestReadText(t *testing.T) {
	huge := longest()
	for _, x := range []struct {
		b    []byte
		most int
		want string
		e    api.Errno
	}{
		{[]byte{2, 97, 98}, 1, "", api.ErrLong}, {[]byte{2, 97, 98}, 2, "ab", api.OK}, {[]byte{2, 97, 98, 99}, 9, "ab", api.OK},
		{[]byte{2, 97, 98}, 0, "", api.ErrLong}, {[]byte{2, 97, 98}, math.MaxInt, "ab", api.OK}, {[]byte{5, 97}, 9, "", api.ErrEnd},
		{[]byte{5, 97}, 4, "", api.ErrLong}, {[]byte{5, 97}, 5, "", api.ErrEnd}, {[]byte{1}, 1, "", api.ErrEnd},
		{[]byte{0}, 0, "", api.OK}, {[]byte{2, 255, 0}, 2, "\xff\x00", api.OK}, {nil, 3, "", api.ErrEnd}, {[]byte{128}, 3, "", api.ErrEnd},
		{[]byte{128, 0}, 3, "", api.ErrForm}, {huge, math.MaxInt, "", api.ErrLong}, {numberForm(math.MaxInt64), math.MaxInt64, "", api.ErrEnd},
		{numberForm(1 << 63), math.MaxInt64, "", api.ErrLong},
		{[]byte{2, 97, 98}, -1, "", api.ErrArg}, {[]byte{128, 0}, -1, "", api.ErrArg}, {nil, math.MinInt, "", api.ErrArg},
	} {
		r := wire.NewReader(x.b)
		s, e := r.Text(x.most)
		if s != x.want || e != x.e || e != api.OK && r.Place() != 0 || e == api.OK && r.Place() != 1+len(x.want) {
			t.Errorf("Text(%d) of %v: %q, %v, place %d; want %q, %v", x.most, x.b, s, e, r.Place(), x.want, x.e)
		}
		if r.Left() != len(x.b)-r.Place() {
			t.Errorf("Text(%d) of %v: left %d", x.most, x.b, r.Left())
		}
	}
}

func TestReadRising(t *testing.T) {
	top, under := signedForm(math.MaxInt64), signedForm(math.MaxInt64-1)
	join := func(l ...[]byte) []byte { return slices.Concat(l...) }
	for _, x := range []struct {
		name string
		b    []byte
		most int
		want []int64
		e    api.Errno
	}{
		{"two", []byte{2, 1, 0}, 9, []int64{-1, 0}, api.OK},
		{"three of which one is missing", []byte{3, 1, 0}, 9, nil, api.ErrEnd},
		{"three", []byte{3, 1, 0, 4}, 9, []int64{-1, 0, 5}, api.OK},
		{"more behind", []byte{1, 1, 0, 4}, 9, []int64{-1}, api.OK},
		{"none", []byte{0}, 0, nil, api.OK},
		{"none, more behind", []byte{0, 7}, 9, nil, api.OK},
		{"the bound", []byte{3, 1, 0, 4}, 3, []int64{-1, 0, 5}, api.OK},
		{"above the bound", []byte{3, 1, 0, 4}, 2, nil, api.ErrLong},
		{"above the bound, and missing", []byte{3}, 2, nil, api.ErrLong},
		{"above the bound of none", []byte{1, 0}, 0, nil, api.ErrLong},
		{"no bound", []byte{3, 1, 0, 4}, -1, nil, api.ErrArg},
		{"no bound, no form", []byte{128, 0}, math.MinInt, nil, api.ErrArg},
		{"no bytes", nil, 9, nil, api.ErrEnd},
		{"no form of how many", []byte{128, 0}, 9, nil, api.ErrForm},
		{"no form of the first", []byte{2, 128, 0}, 9, nil, api.ErrForm},
		{"no form of the second", []byte{2, 1, 128, 0}, 9, nil, api.ErrForm},
		{"the first missing", []byte{2}, 9, nil, api.ErrEnd},
		{"the second cut", []byte{2, 1, 128}, 9, nil, api.ErrEnd},
		{"above the greatest", join([]byte{2}, top, []byte{0}), 9, nil, api.ErrRising},
		{"the greatest", join([]byte{2}, under, []byte{0}), 9, []int64{math.MaxInt64 - 1, math.MaxInt64}, api.OK},
		{"one above the greatest", join([]byte{2}, under, []byte{1}), 9, nil, api.ErrRising},
		{"the widest step", join([]byte{2}, signedForm(math.MinInt64), numberForm(math.MaxUint64-1)), 9, []int64{math.MinInt64, math.MaxInt64}, api.OK},
		{"wider than the widest", join([]byte{2}, signedForm(math.MinInt64), longest()), 9, nil, api.ErrRising},
		{"a step that goes round", join([]byte{2, 1}, longest()), 9, nil, api.ErrRising},
		{"a step from -1 to the greatest", join([]byte{2, 1}, numberForm(math.MaxInt64)), 9, []int64{-1, math.MaxInt64}, api.OK},
		{"a step from -1 above the greatest", join([]byte{2, 1}, numberForm(1<<63)), 9, nil, api.ErrRising},
		{"above the greatest ahead of what is no form", join([]byte{3}, top, []byte{0, 128, 0}), 9, nil, api.ErrRising},
		{"above the greatest ahead of what is missing", join([]byte{9}, top, []byte{0}), 9, nil, api.ErrRising},
		{"no form ahead of what is above the greatest", join([]byte{3}, top, []byte{128, 0, 0}), 9, nil, api.ErrForm},
		{"more numbers than bytes", join(numberForm(math.MaxInt64), []byte{1, 0}), math.MaxInt, nil, api.ErrEnd},
		{"more numbers than an int holds", join(longest(), []byte{1, 0}), math.MaxInt, nil, api.ErrLong},
	} {
		r := wire.NewReader(x.b)
		l, e := r.Rising(x.most)
		if e != x.e || !slices.Equal(l, x.want) || e != api.OK && (l != nil || r.Place() != 0) || r.Left() != len(x.b)-r.Place() {
			t.Errorf("%s: %v, %v, place %d; want %v, %v", x.name, l, e, r.Place(), x.want, x.e)
		}
		if e == api.OK && r.Place() != len(risingForm(x.want)) {
			t.Errorf("%s: place %d", x.name, r.Place())
		}
	}
}

// roomTaken tells how many bytes of memory are taken while do is done.
func roomTaken(do func()) uint64 {
	var ahead, behind runtime.MemStats
	runtime.ReadMemStats(&ahead)
	do()
	runtime.ReadMemStats(&behind)
	return behind.TotalAlloc - ahead.TotalAlloc
}

func TestRisingRoom(t *testing.T) {
	r := wire.NewReader(append(numberForm(1<<28), make([]byte, 100)...))
	room := roomTaken(func() {
		if _, e := r.Rising(math.MaxInt); e != api.ErrEnd {
			t.Errorf("a list of too many: %v", e)
		}
	})
	if room > 1<<20 {
		t.Errorf("%d bytes of room for a list of 100 bytes", room)
	}
}

func TestRefusedReadsNothing(t *testing.T) {
	b := []byte{9, 3, 1, 128, 0}
	r := wire.NewReader(b)
	r.Byte()
	for i, do := range []func() api.Errno{
		func() api.Errno { _, e := r.Rising(9); return e },
		func() api.Errno { _, e := r.Rising(2); return e },
		func() api.Errno { _, e := r.Rising(-1); return e },
		func() api.Errno { _, e := r.Text(2); return e },
		func() api.Errno { _, e := wire.NewReader([]byte{4, 1}).Text(9); return e },
		func() api.Errno { _, e := r.Text(-1); return e },
		func() api.Errno { _, e := r.Raw(5); return e },
		func() api.Errno { _, e := r.Raw(-1); return e },
	} {
		if e := do(); e == api.OK || r.Place() != 1 || r.Left() != 4 {
			t.Errorf("call %d: %v, place %d, left %d", i, e, r.Place(), r.Left())
		}
	}
	if rest, e := r.Raw(4); e != api.OK || !bytes.Equal(rest, b[1:]) {
		t.Errorf("what is left: %v, %v", rest, e)
	}
}

func checkNoBytes(t *testing.T, r *wire.Reader, end api.Errno) {
	t.Helper()
	bad := end
	if end == api.ErrEnd {
		bad = api.ErrArg
	}
	check := func(name string, zero bool, e, want api.Errno) {
		t.Helper()
		if !zero || e != want {
			t.Errorf("%s: %v, want %v", name, e, want)
		}
	}
	b, e := r.Byte()
	check("Byte", b == 0, e, end)
	n, e := r.Number()
	check("Number", n == 0, e, end)
	i, e := r.Signed()
	check("Signed", i == 0, e, end)
	f, e := r.Fixed()
	check("Fixed", f == 0, e, end)
	s, e := r.Text(1)
	check("Text(1)", s == "", e, end)
	s, e = r.Text(-1)
	check("Text(-1)", s == "", e, bad)
	raw, e := r.Raw(1)
	check("Raw(1)", raw == nil, e, end)
	raw, e = r.Raw(-1)
	check("Raw(-1)", raw == nil, e, bad)
	l, e := r.Rising(1)
	check("Rising(1)", l == nil, e, end)
	l, e = r.Rising(-1)
	check("Rising(-1)", l == nil, e, bad)
	if r.Place() != 0 || r.Left() != 0 {
		t.Errorf("place %d, left %d", r.Place(), r.Left())
	}
}

func TestReadersOfNoBytes(t *testing.T) {
	var zero wire.Reader
	checkNoBytes(t, nil, api.ErrNil)
	checkNoBytes(t, &zero, api.ErrEnd)
	checkNoBytes(t, wire.NewReader(nil), api.ErrEnd)
	checkNoBytes(t, wire.NewReader([]byte{}), api.ErrEnd)
	if b, e := (*wire.Reader)(nil).Raw(0); b != nil || e != api.ErrNil {
		t.Errorf("Raw(0) of a nil reader: %v, %v", b, e)
	}
	if b, e := zero.Raw(0); len(b) != 0 || e != api.OK {
		t.Errorf("Raw(0) of a zero reader: %v, %v", b, e)
	}
}

func TestReaderMemory(t *testing.T) {
	in := append(make([]byte, 0, 32), 1, 2, 3, 4, 2, 6, 7, 2, 97, 98)
	ahead := slices.Clone(in[:cap(in)])
	r, other := wire.NewReader(in), wire.NewReader(in)
	first, _ := r.Raw(2)
	if !bytes.Equal(in[:cap(in)], ahead) {
		t.Error("what was handed in is changed")
	}
	clear(in[:cap(in)])
	for i := range first[:cap(first)] {
		first[:cap(first)][i] = 55
	}
	second, e := r.Raw(2)
	if e != api.OK || !bytes.Equal(second, []byte{3, 4}) {
		t.Errorf("what was handed in is kept, or an answer shares memory: %v, %v", second, e)
	}
	l, e := r.Rising(2)
	if e != api.OK || !slices.Equal(l, []int64{3, 11}) {
		t.Errorf("Rising: %v, %v", l, e)
	}
	if s, e := r.Text(2); e != api.OK || s != "ab" {
		t.Errorf("Text: %q, %v", s, e)
	}
	if b, e := other.Raw(10); e != api.OK || !bytes.Equal(b, ahead[:10]) || other.Left() != 0 {
		t.Errorf("two readers have to do with one another: %v, %v", b, e)
	}
}
