package schema_test

import (
	"bytes"
	"encoding/binary"
	"math"
	"runtime"
	"slices"
	"strings"
	"testing"

	"keepsake/api"
	"keepsake/schema"
)

// some are states whose keys rise, each in order for that job.
func some(c api.Config) []api.KeyState {
	l := []api.KeyState{
		keyed("", 0),
		keyed("a", 3),
		keyed("k", 300, win(-3, 2, -3, 1, 7, 7, 7, 1, 0), win(4, 9, 4, 1, -1, -1, -1, 1, 0)),
		keyed("kk", 0, win(leastStart, greatestEnd, least, mostCount, greatest, least, greatest, mostCount, mostCount)),
		keyed("l", 1, win(leastStart, 0, 0, 0, 0, 0, 0, 0, 0), win(greatestEnd-1, greatestEnd, greatest, 128, least, 300, -300, 127, 16384)),
		keyed(strings.Repeat("m", 130), 128, many(12)...),
	}
	if c.Kind != api.Session {
		l = append(l, keyed("n", 0, spans(0, 10, 0, 11, 0, 300, 5, 10, 5, 11)...))
	}
	return append(l, keyed("é\xff", mostCount))
}

// P19.2, P19.3, P19.4: bytes cut off at every place, and each byte changed, added and left out.
func TestSpoiltBytes(t *testing.T) {
	for _, c := range jobs() {
		for _, k := range some(c) {
			b := bytesOf(k)
			for at := range b {
				read(t, c, b[:at])
				read(t, c, slices.Delete(slices.Clone(b), at, at+1))
				for _, x := range []byte{0, 1, 9, 127, 128, 129, 255} {
					read(t, c, slices.Insert(slices.Clone(b), at, x))
				}
				for x := 0; x < 256; x += 1 + len(b)/20 {
					changed := slices.Clone(b)
					changed[at] ^= byte(x)
					read(t, c, changed)
				}
			}
			if _, _, e := schema.Read(c, b[:len(b)-1]); e != api.ErrSchema {
				t.Errorf("Read of %v cut off: %d", b, e)
			}
		}
	}
}

// places are where each number form of a state begins: of the key's length, of Dropped, of how many windows there are, and of each field.
func places(k api.KeyState) []int {
	b := bytesOf(k)
	at := []int{0, 1 + len(k.Key)}
	if len(k.Key) > 127 {
		at[1]++
	}
	for range 1 + 9*len(k.Windows) {
		last := at[len(at)-1]
		_, n := binary.Uvarint(b[last:])
		at = append(at, last+n)
	}
	return at
}

// P19.2, P19.3: each number in its turn is written otherwise: longer than it must be, without an end, above all numbers; and as each edge there is.
func TestNumbers(t *testing.T) {
	numbers := []uint64{0, 1, 255, 256, 257, mostCount, mostCount + 1, 1<<62 - 1, 1 << 62, 1<<62 + 1, 1<<63 - 1, 1 << 63, 1<<63 + 1, 1<<63 + 1<<41 - 1, 1<<63 + 1<<41, math.MaxUint64 - 9, math.MaxUint64 - 1, math.MaxUint64}
	var forms [][]byte
	for _, x := range numbers {
		forms = append(forms, binary.AppendUvarint(nil, x))
	}
	for _, x := range edges() {
		forms = append(forms, binary.AppendVarint(nil, x))
	}
	nine := bytes.Repeat([]byte{255}, 9)
	forms = append(forms, nine, append(slices.Clone(nine), 2), append(slices.Clone(nine), 255), append(slices.Clone(nine), 128, 0), append(slices.Clone(nine), 0), append(bytes.Repeat([]byte{128}, 9), 1), bytes.Repeat([]byte{255}, 20))
	for _, c := range jobs() {
		for _, k := range some(c)[:5] {
			b := bytesOf(k)
			for _, at := range places(k) {
				_, n := binary.Uvarint(b[at:])
				if n == 0 {
					continue
				}
				old, rest := b[at:at+n], b[at+n:]
				long := append(slices.Clone(old), 0)
				long[n-1] |= 128
				for _, form := range append(forms, long, append(slices.Clone(long[:n]), 128, 0)) {
					read(t, c, slices.Concat(b[:at], form, rest))
					read(t, c, slices.Concat(b[:at], form))
				}
				if _, _, e := schema.Read(c, slices.Concat(b[:at], long, rest)); e != api.ErrSchema {
					t.Errorf("a number of %v at %d is longer than it must be: %d", b, at, e)
				}
				if _, _, e := schema.Skip(slices.Concat(b[:at], long, rest)); e != api.ErrSchema {
					t.Errorf("Skip: a number of %v at %d is longer than it must be: %d", b, at, e)
				}
			}
		}
	}
}

// P19.2: windows that go round are none: a distance beyond all that there are would come back to where a window may lie.
func TestGoesRound(t *testing.T) {
	behind := []byte{0, 0, 0, 0, 0, 0, 0}
	first := func(start int64, length uint64) []byte {
		b := binary.AppendVarint([]byte{0, 0, 1}, start)
		return append(binary.AppendUvarint(b, length), behind...)
	}
	for _, c := range jobs() {
		for _, x := range []struct {
			start  int64
			length uint64
			want   api.Errno
		}{
			{5, 0, api.OK},
			{5, math.MaxUint64, api.ErrSchema},     // to 5
			{5, math.MaxUint64 - 1, api.ErrSchema}, // to 4
			{greatest, 0, api.ErrSchema},           // to the least number
			{greatest, 1 << 63, api.ErrSchema},     // to 0
			{leastStart, 1<<63 + 1<<41 - 1, api.OK},
			{leastStart, 1<<63 + 1<<41, api.ErrSchema},
			{leastStart - 1, 9, api.ErrSchema},
			{least, 9, api.ErrSchema},
		} {
			b := first(x.start, x.length)
			if _, _, e := schema.Read(c, b); e != x.want {
				t.Errorf("Read of a window from %d on, of %d and one: %d, want %d", x.start, x.length, e, x.want)
			}
			read(t, c, b)
		}
		for _, far := range []uint64{0, 9, 10, 11, 1 << 62, greatestEnd - 1, greatestEnd, 1 << 63, math.MaxUint64 - 1<<40, math.MaxUint64 - 11, math.MaxUint64 - 9, math.MaxUint64} {
			b := append(first(0, 9), append(binary.AppendUvarint(nil, far), append([]byte{0}, behind...)...)...)
			b[2] = 2
			read(t, c, b)
		}
		// A count that would come back as another one.
		for at := range behind {
			b := first(0, 9)[:5]
			for i := range behind {
				x := uint64(0)
				if i == at {
					x = 1 << 63
				}
				b = binary.AppendUvarint(b, x)
			}
			read(t, c, b)
		}
	}
}

// P19.2 to P19.4: more windows than are there, and longer keys; nothing is looked for behind the end.
func TestMoreThanThere(t *testing.T) {
	for _, n := range []uint64{1, 2, 3, 4, 127, 128, 1 << 31, 1 << 32, 1 << 60, 1 << 62, 1 << 63, math.MaxUint64/9 + 1, math.MaxUint64/9 + 2, math.MaxUint64} {
		b := binary.AppendUvarint([]byte{1, 97, 0}, n)
		for range 3 {
			read(t, tumbling(), b)
			b = append(b, 9, 9, 9, 9, 9, 9, 9, 9, 9)
		}
		for i := range 300 {
			b := append(binary.AppendUvarint(nil, n), make([]byte, i)...)
			read(t, tumbling(), b)
		}
	}
	// A key above the bound is no key, though all forms are there; Skip looks at the forms alone.
	for _, n := range []int{255, 256, 257, 300, 5000} {
		k := keyed(strings.Repeat("k", n), 1, spans(0, 10)...)
		for _, b := range [][]byte{bytesOf(k), append(bytesOf(k), 7)} {
			read(t, tumbling(), b)
			if key, size, e := schema.Skip(b); key != k.Key || size != len(bytesOf(k)) || e != api.OK {
				t.Errorf("Skip of a key of %d bytes is %d bytes, %d, %d", n, len(key), size, e)
			}
		}
	}
}

// P19.3: forms whose state is out of order, or is none.
func TestSkipForms(t *testing.T) {
	for _, k := range []api.KeyState{
		keyed("a", -1),
		keyed("a", 0, spans(5, 3)...),
		keyed("a", 0, spans(0, 10, 0, 10)...),
		keyed("a", 0, spans(20, 30, 0, 10)...),
		keyed("a", 0, spans(least, greatest)...),
		keyed("a", 0, win(0, 1, 0, -1, 0, 0, 0, -1, -1)),
		keyed(strings.Repeat("k", 1<<12), least),
	} {
		b := bytesOf(k)
		for _, behind := range [][]byte{nil, {7}, {128}, b} {
			whole := slices.Concat(b, behind)
			if key, n, e := schema.Skip(whole); key != k.Key || n != len(b) || e != api.OK {
				t.Errorf("Skip(%v) is %q, %d, %d", whole, key, n, e)
			}
			for _, c := range jobs() {
				read(t, c, whole)
			}
		}
		for at := range b {
			skip(t, b[:at])
		}
	}
	for _, b := range [][]byte{nil, {}, {0}, {0, 0}, {0, 0, 0}, {0, 0, 1}, {0, 0, 1, 0, 0, 0, 0, 0, 0, 0, 0}, {0, 0, 1, 0, 0, 0, 0, 0, 0, 0, 0, 0}, {2, 1}, {2, 1, 1, 0, 0}, {128}, {128, 0, 0, 0}} {
		skip(t, b)
		for _, c := range jobs() {
			read(t, c, b)
		}
	}
}

// P19.2: which job it is says only which states are in order.
func TestReadByJobs(t *testing.T) {
	overlap := bytesOf(keyed("a", 0, spans(0, 10, 5, 15)...))
	for _, c := range jobs() {
		want := api.OK
		if c.Kind == api.Session {
			want = api.ErrSchema
		}
		if _, _, e := schema.Read(c, overlap); e != want {
			t.Errorf("Read of %v by %+v: %d, want %d", overlap, c, e, want)
		}
		if _, e := schema.ReadAll(c, overlap); e != want {
			t.Errorf("ReadAll of %v by %+v: %d, want %d", overlap, c, e, want)
		}
		read(t, c, overlap)
	}
}

// Forms that begin and end at all places of long bytes are read alike.
func TestAllPlaces(t *testing.T) {
	wide := win(leastStart, greatestEnd, least, mostCount, greatest, least, greatest, mostCount, mostCount)
	for length := range 257 {
		for _, c := range jobs() {
			put(t, c, keyed(strings.Repeat("k", length), 1, append(many(20), win(1000, greatestEnd, least, mostCount, least, least, least, mostCount, mostCount))...))
			put(t, c, keyed(strings.Repeat("k", length), mostCount, wide))
		}
	}
	for length := range 600 {
		b := bytesOf(keyed(strings.Repeat("k", length), 1, many(70)...))
		skip(t, b)
		skip(t, b[:len(b)-1])
	}
}

// room is how many bytes of room a call takes in all.
func room(call func()) uint64 {
	var ahead, behind runtime.MemStats
	runtime.ReadMemStats(&ahead)
	call()
	runtime.ReadMemStats(&behind)
	return behind.TotalAlloc - ahead.TotalAlloc
}

// P19.6: no more room is taken than the bytes that are read are worth.
func TestRoom(t *testing.T) {
	const much = 1 << 16
	long := make([]byte, 1<<24)
	for _, k := range some(tumbling()) {
		b := append(bytesOf(k), long...)
		if n := room(func() { schema.Read(tumbling(), b) }); n > much {
			t.Errorf("Read of %v takes %d bytes", b[:20], n)
		}
		if n := room(func() { schema.Skip(b) }); n > much {
			t.Errorf("Skip of %v takes %d bytes", b[:20], n)
		}
	}
	for _, x := range []uint64{257, 1 << 20, 1 << 30, 1 << 62, math.MaxUint64} {
		windows := append(binary.AppendUvarint([]byte{1, 97, 3}, x), bytes.Repeat([]byte{9}, 2000)...)
		windows = append(windows, bytes.Repeat([]byte{255}, 1<<24)...)
		key := append(binary.AppendUvarint(nil, x), long...)
		for _, b := range [][]byte{windows, windows[:20], key, key[:20]} {
			if n := room(func() { schema.Read(tumbling(), b) }); n > much {
				t.Errorf("Read of %v takes %d bytes", b[:20], n)
			}
			if n := room(func() { schema.ReadAll(tumbling(), b) }); n > much {
				t.Errorf("ReadAll of %v takes %d bytes", b[:20], n)
			}
			if n := room(func() { schema.Skip(b) }); n > 4*uint64(min(x, 1<<24))+much {
				t.Errorf("Skip of %v takes %d bytes", b[:20], n)
			}
		}
	}
}
