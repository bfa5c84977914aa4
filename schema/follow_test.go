package schema_test

import (
	"bytes"
	"encoding/binary"
	"fmt"
	"math/rand"
	"slices"
	"strings"
	"testing"

	"keepsake/api"
	"keepsake/schema"
)

// drawer draws states, most of them in order, and bytes that are nearly theirs.
type drawer struct{ *rand.Rand }

func (d drawer) job() api.Config { return jobs()[d.Intn(3)] }

func (d drawer) number() int64 {
	switch d.Intn(6) {
	case 0:
		l := edges()
		return l[d.Intn(len(l))]
	case 1:
		return int64(d.Uint64() >> d.Intn(64))
	}
	return d.Int63n(300) - 150
}

func (d drawer) count() int64 {
	if n := d.number(); d.Intn(20) == 0 || n >= 0 && n <= mostCount {
		return n
	}
	return d.Int63n(200)
}

func (d drawer) key() string {
	switch d.Intn(10) {
	case 0:
		return strings.Repeat("k", 120+d.Intn(140))
	case 1:
		b := make([]byte, d.Intn(5))
		d.Read(b)
		return string(b)
	}
	return strings.Repeat("ab", d.Intn(3))[d.Intn(2)&d.Intn(1):]
}

func (d drawer) state() api.KeyState {
	k := keyed(d.key(), d.count())
	at := d.Int63n(100) - 50
	if d.Intn(5) == 0 {
		at = leastStart
	}
	for range d.Intn(6) {
		length := 1 + d.Int63n(20)
		if d.Intn(6) == 0 {
			length = 1 << d.Intn(62)
		}
		k.Windows = append(k.Windows, win(at, at+length, d.number(), d.count(), d.number(), d.number(), d.number(), d.count(), d.count()))
		at += max(length, 1+d.Int63n(30))
		if d.Intn(8) == 0 {
			at -= d.Int63n(length + 2)
		}
	}
	return k
}

// spoilt are bytes changed a little.
func (d drawer) spoilt(b []byte) []byte {
	b = slices.Clone(b)
	for range d.Intn(3) {
		at := d.Intn(len(b) + 1)
		switch d.Intn(4) {
		case 0:
			b = b[:at]
		case 1:
			b = slices.Insert(b, at, []byte{0, 1, 9, 127, 128, 255}[d.Intn(6)])
		case 2:
			b = slices.Insert(b, at, binary.AppendVarint(nil, d.number())...)
		case 3:
			if at < len(b) {
				b[at] ^= 1 << d.Intn(8)
			}
		}
	}
	return b
}

// P19.1 to P19.5: drawn states and bytes.
func TestDrawn(t *testing.T) {
	held := 0
	for seed := range 6000 {
		d := drawer{rand.New(rand.NewSource(int64(seed)))}
		c, k := d.job(), d.state()
		put(t, c, k)
		if inOrder(c, k) {
			held++
		}
		read(t, c, d.spoilt(append(bytesOf(k), bytesOf(d.state())...)))
		var l []api.KeyState
		for range d.Intn(5) {
			l = append(l, d.state())
		}
		if d.Intn(4) > 0 {
			slices.SortFunc(l, func(a, b api.KeyState) int { return strings.Compare(a.Key, b.Key) })
		}
		putAll(t, c, l...)
		var all []byte
		for _, k := range l {
			all = append(all, bytesOf(k)...)
		}
		read(t, c, all)
		read(t, c, d.spoilt(all))
		if t.Failed() {
			t.Fatalf("seed %d", seed)
		}
	}
	if held < 2000 {
		t.Errorf("only %d states are in order", held)
	}
}

// P19.5: unlike states have unlike bytes, and no state's bytes begin with another one's.
func TestUnlike(t *testing.T) {
	for _, c := range jobs() {
		states := some(c)
		for i := range 9 {
			for _, x := range []int64{-1, 0, 1, 2, 127, 128} {
				n := []int64{3, 13, 3, 2, 2, 2, 2, 2, 2}
				n[i] = x
				w := win(n[0], n[1], n[2], n[3], n[4], n[5], n[6], n[7], n[8])
				if k := keyed("a", 0, w); inOrder(c, k) {
					states = append(states, k)
				}
				for _, k := range []api.KeyState{keyed("a", 0, w, span(200, 210)), keyed("a", 0, span(-20, -10), w)} {
					if inOrder(c, k) {
						states = append(states, k)
					}
				}
			}
		}
		for seed := range 200 {
			d := drawer{rand.New(rand.NewSource(int64(seed)))}
			if k := d.state(); inOrder(c, k) {
				states = append(states, k)
			}
		}
		var texts [][]byte
		for _, k := range states {
			b, e := schema.Put(c, k)
			if e != api.OK {
				t.Fatalf("Put(%+v): %d", k, e)
			}
			texts = append(texts, b)
		}
		for i, a := range states {
			for j, b := range states {
				if alike := same(a, b); alike != bytes.HasPrefix(texts[i], texts[j]) || alike != bytes.Equal(texts[i], texts[j]) {
					t.Errorf("%+v and %+v: %v and %v", a, b, texts[i], texts[j])
				}
			}
		}
	}
}

// P19.5: a job says only which states are in order, not which bytes they have.
func TestBytesByJobs(t *testing.T) {
	for seed := range 500 {
		d := drawer{rand.New(rand.NewSource(int64(seed)))}
		k := d.state()
		var all []string
		for _, c := range append(jobs(), api.Config{Groups: 32768, Sources: 64, Kind: api.Tumbling, Size: 1 << 40, Late: 1 << 40}) {
			b, e := schema.Put(c, k)
			if (e == api.OK) != inOrder(c, k) {
				t.Errorf("Put(%+v, %+v): %d", c, k, e)
			}
			if e != api.OK {
				continue
			}
			all = append(all, fmt.Sprint(b))
			got, n, e := schema.Read(c, b)
			if e != api.OK || n != len(b) || !same(got, k) {
				t.Errorf("Read(%+v, %v) is %+v, %d, %d", c, b, got, n, e)
			}
		}
		if len(slices.Compact(all)) > 1 {
			t.Errorf("%+v has the bytes %v", k, all)
		}
	}
}

func FuzzBytes(f *testing.F) {
	for i, c := range jobs() {
		l := some(c)
		all, _ := schema.PutAll(c, l...)
		f.Add(byte(i), all)
		for _, k := range l {
			f.Add(byte(i), append(bytesOf(k), 7))
		}
	}
	f.Add(byte(0), []byte{1, 97, 3, 0, 1, 98, 1, 0})
	f.Fuzz(func(t *testing.T, which byte, b []byte) {
		c := jobs()[which%3]
		read(t, c, b)
		if k, n, e := schema.Read(c, b); e == api.OK {
			put(t, c, k)
			read(t, c, b[n:])
		}
	})
}
