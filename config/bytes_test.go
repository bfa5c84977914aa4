package config_test

import (
	"bytes"
	"hash/crc32"
	"math"
	"math/rand"
	"runtime"
	"slices"
	"testing"

	"keepsake/api"
	"keepsake/config"
)

// reads holds Read against a job and how many bytes it has.
func reads(t *testing.T, b []byte, want api.Config, size int) {
	t.Helper()
	if c, n, e := config.Read(b); c != want || n != size || e != api.OK {
		t.Errorf("Read(%v) is %+v, %d, %d, want %+v, %d", b, c, n, e, want, size)
	}
}

// readsNone asks that Read refuses bytes, with nothing beside it.
func readsNone(t *testing.T, b []byte) {
	t.Helper()
	if c, n, e := config.Read(b); c != (api.Config{}) || n != 0 || e != api.ErrBytes {
		t.Errorf("Read(%v) is %+v, %d, %d", b, c, n, e)
	}
}

func TestBytesExamples(t *testing.T) {
	b, e := config.Bytes(example())
	if want := []byte{4, 1, 1, 10, 0, 3, 0, 5, 0, 0}; !slices.Equal(b, want) || e != api.OK {
		t.Errorf("Bytes of T are %v, %d", b, e)
	}
	reads(t, append(slices.Clone(b), 9), example(), 10)
	readsNone(t, b[:9])
	readsNone(t, []byte{4, 1, 4, 10, 0, 3, 0, 5, 0, 0})

	// Numbers of more bytes, and Discard.
	b, e = config.Bytes(sliding())
	if want := []byte{7, 3, 2, 128, 5, 10, 9, 0, 172, 2, 128, 1, 1}; !slices.Equal(b, want) || e != api.OK {
		t.Errorf("Bytes of %+v are %v, %d", sliding(), b, e)
	}
	b, e = config.Bytes(session())
	if want := []byte{172, 2, 64, 3, 0, 0, 0, 7, 1, 2, 0}; !slices.Equal(b, want) || e != api.OK {
		t.Errorf("Bytes of %+v are %v, %d", session(), b, e)
	}
}

// The greatest numbers, and the least.
func TestBytesAtTheBounds(t *testing.T) {
	for _, c := range []api.Config{
		{Groups: 1, Sources: 1, Kind: api.Tumbling, Size: 1},
		{Groups: 1, Sources: 1, Kind: api.Sliding, Size: 1, Slide: 1},
		{Groups: 1, Sources: 1, Kind: api.Session, Gap: 1},
		{Groups: 32768, Sources: 64, Kind: api.Tumbling, Size: 1 << 40, Offset: 1<<40 - 1, Late: 1 << 40, Early: 1<<31 - 1, Discard: true},
		{Groups: 32768, Sources: 64, Kind: api.Sliding, Size: 1 << 40, Slide: 1 << 40, Offset: 1<<40 - 1, Late: 1 << 40, Early: 1<<31 - 1, Discard: true},
		{Groups: 32768, Sources: 64, Kind: api.Session, Gap: 1 << 40, Late: 1 << 40, Early: 1<<31 - 1, Discard: true},
	} {
		b, e := config.Bytes(c)
		if !slices.Equal(b, bytesOf(c)) || e != api.OK {
			t.Errorf("Bytes(%+v) are %v, %d", c, b, e)
		}
		reads(t, b, c, len(b))
	}
}

func TestBytesOfWrongJobs(t *testing.T) {
	for _, c := range kinds() {
		for f := api.FieldGroups; f <= api.FieldEarly; f++ {
			for _, x := range edges() {
				c := with(c, f, x)
				if mayBeOf(c) {
					continue
				}
				if b, e := config.Bytes(c); len(b) != 0 || e != api.ErrJob {
					t.Errorf("Bytes(%+v) are %v, %d", c, b, e)
				}
				if d, e := config.Digest(c); d != 0 || e != api.ErrJob {
					t.Errorf("Digest(%+v) is %d, %d", c, d, e)
				}
				if x >= 0 {
					readsNone(t, bytesOf(c))
				}
			}
		}
	}
}

// Behind a job's bytes anything may stand; cut off they are none, at every place.
func TestReadWithMoreAndCutOff(t *testing.T) {
	for _, c := range kinds() {
		b := bytesOf(c)
		for _, more := range [][]byte{{0}, {1}, {128}, {255, 255}, b, bytes.Repeat([]byte{255}, 1000), make([]byte, 100000)} {
			reads(t, slices.Concat(b, more), c, len(b))
		}
		for n := range b {
			readsNone(t, b[:n])
			readsNone(t, b[:n:n])
			// Nor is it what would be behind the cut, if the rest is left out in the middle.
			if want, size, e := readOf(slices.Concat(b[:n], b[n+1:])); e != api.OK {
				readsNone(t, slices.Concat(b[:n], b[n+1:]))
			} else {
				reads(t, slices.Concat(b[:n], b[n+1:]), want, size)
			}
		}
	}
	readsNone(t, nil)
	readsNone(t, []byte{})
}

// Numbers in another form than layer 1 writes, at every place.
func TestReadOfOtherForms(t *testing.T) {
	for _, c := range kinds() {
		l := values(c)
		for i := range l {
			ahead, behind := formsOf(l[:i]), formsOf(l[i+1:])
			longer := slices.Clone(form(l[i]))
			for len(longer) < 12 {
				longer[len(longer)-1] |= 128
				longer = append(longer, 0)
				readsNone(t, slices.Concat(ahead, longer, behind))
			}
			for _, other := range [][]byte{
				bytes.Repeat([]byte{128}, 10), bytes.Repeat([]byte{255}, 10), bytes.Repeat([]byte{255}, 200),
				append(bytes.Repeat([]byte{255}, 9), 0), append(bytes.Repeat([]byte{255}, 9), 2), append(bytes.Repeat([]byte{128}, 9), byte(l[i])),
			} {
				readsNone(t, slices.Concat(ahead, other, behind))
			}
		}
	}
}

// Numbers past all bounds, at every place: such as would be right if only their lower bits were kept, too.
func TestReadOfGreatNumbers(t *testing.T) {
	for _, c := range kinds() {
		l := values(c)
		for i := range l {
			for _, x := range []uint64{1 << 31, 1 << 32, 1<<32 + l[i], 1<<41 + l[i], 1<<56 + l[i], greatest, 1 << 63, 1<<63 + l[i], math.MaxUint64, math.MaxUint64 - 1, math.MaxUint64 - l[i]} {
				other := slices.Clone(l)
				other[i] = x
				b := formsOf(other)
				// Some of the lesser ones may be: a Late.
				if want, size, e := readOf(b); e == api.OK {
					reads(t, b, want, size)
				} else {
					readsNone(t, b)
				}
			}
		}
	}
}

// The Kind and Discard at each small number.
func TestReadOfKindsAndDiscards(t *testing.T) {
	for x := range byte(128) {
		b := bytesOf(example())
		b[9] = x
		want := example()
		want.Discard = x == 1
		if x <= 1 {
			reads(t, b, want, 10)
		} else {
			readsNone(t, b)
		}
		b = bytesOf(example())
		b[2] = x
		if x == 1 {
			reads(t, b, example(), 10)
		} else {
			readsNone(t, b)
		}
	}
}

// Two jobs' bytes differ in one byte: each byte turned into each other one.
func TestReadOfOneByteChanged(t *testing.T) {
	for _, c := range kinds() {
		for i := range bytesOf(c) {
			for x := range 256 {
				b := bytesOf(c)
				b[i] = byte(x)
				b = append(b, 0, 0, 0)
				if want, size, e := readOf(b); e == api.OK {
					reads(t, b, want, size)
				} else {
					readsNone(t, b)
				}
			}
		}
	}
}

// The longest text of ten number forms there can be is no job's; its length is no hindrance.
func TestReadOfLongTexts(t *testing.T) {
	readsNone(t, bytes.Repeat(append(bytes.Repeat([]byte{255}, 9), 1), 10))
	readsNone(t, bytes.Repeat([]byte{255}, 1<<20))
	readsNone(t, make([]byte, 1<<20))
	long := append(bytesOf(sliding()), make([]byte, 1<<24)...)
	var ahead, behind runtime.MemStats
	runtime.ReadMemStats(&ahead)
	reads(t, long, sliding(), 13)
	runtime.ReadMemStats(&behind)
	if room := behind.TotalAlloc - ahead.TotalAlloc; room > 1<<20 {
		t.Errorf("Read of a long text takes %d bytes of room", room)
	}
}

func TestDigest(t *testing.T) {
	table := crc32.MakeTable(crc32.Castagnoli)
	r := rand.New(rand.NewSource(2))
	l := kinds()
	for range 5000 {
		l = append(l, anyGood(r))
	}
	for _, c := range l {
		if d, e := config.Digest(c); d != crc32.Checksum(bytesOf(c), table) || e != api.OK {
			t.Fatalf("Digest(%+v) is %x, %d", c, d, e)
		}
	}
}

func TestBytesOfAny(t *testing.T) {
	r := rand.New(rand.NewSource(3))
	for range 50000 {
		c := anyJob(r)
		b, e := config.Bytes(c)
		if !mayBeOf(c) {
			if len(b) != 0 || e != api.ErrJob {
				t.Fatalf("Bytes(%+v) are %v, %d", c, b, e)
			}
			continue
		}
		if !slices.Equal(b, bytesOf(c)) || e != api.OK {
			t.Fatalf("Bytes(%+v) are %v, %d", c, b, e)
		}
	}
}

// Any bytes, most of them nearly a job's.
func TestReadOfAny(t *testing.T) {
	r := rand.New(rand.NewSource(4))
	for range 100000 {
		b := bytesOf(anyGood(r))
		for range r.Intn(3) {
			b[r.Intn(len(b))] = byte(r.Intn(256))
		}
		b = b[:len(b)-r.Intn(2)]
		for range r.Intn(4) {
			b = append(b, byte(r.Intn(256)))
		}
		want, size, wantE := readOf(b)
		if c, n, e := config.Read(b); c != want || n != size || e != wantE {
			t.Fatalf("Read(%v) is %+v, %d, %d, want %+v, %d, %d", b, c, n, e, want, size, wantE)
		}
	}
}
