package schema_test

import (
	"fmt"
	"math/rand"
	"slices"
	"strings"
	"testing"

	"keepsake/api"
	"keepsake/schema"
)

// P19.4: none, one, several; no bytes are those of no states.
func TestAllOfNone(t *testing.T) {
	for _, c := range jobs() {
		for _, l := range [][]api.KeyState{nil, {}} {
			if b, e := schema.PutAll(c, l...); len(b) != 0 || e != api.OK {
				t.Errorf("PutAll of none is %v, %d", b, e)
			}
		}
		for _, b := range [][]byte{nil, {}} {
			if l, e := schema.ReadAll(c, b); l != nil || e != api.OK {
				t.Errorf("ReadAll of none is %v, %d", l, e)
			}
			read(t, c, b)
		}
	}
}

func TestAllOfSome(t *testing.T) {
	for _, c := range jobs() {
		l := some(c)
		for i := range l {
			for k := i; k <= len(l); k++ {
				putAll(t, c, l[i:k]...)
			}
		}
		if _, e := schema.PutAll(c, l...); e != api.OK {
			t.Errorf("PutAll: %d", e)
		}
		// States with nothing in them stand among the others.
		putAll(t, c, keyed("", 0), keyed("a", 0), keyed("b", 1), keyed("c", 0))
		// By bytes, not by letters or lengths.
		putAll(t, c, keyed("", 0), keyed("\x00", 0), keyed("B", 0), keyed("a", 0), keyed("aa", 0), keyed("b", 0), keyed("é", 0), keyed("\xff", 0))
	}
}

// P19.4: keys that fall or stand twice, at the beginning, in the midst and at the end.
func TestAllFalls(t *testing.T) {
	names := []string{"", "a", "ab", "b", "\xff"}
	for _, c := range jobs() {
		for _, x := range names {
			for _, y := range names {
				putAll(t, c, keyed(x, 1), keyed(y, 2))
				read(t, c, append(bytesOf(keyed(x, 1)), bytesOf(keyed(y, 2))...))
				for _, z := range names {
					putAll(t, c, keyed(x, 1), keyed(y, 0, spans(0, 10)...), keyed(z, 3))
					read(t, c, slices.Concat(bytesOf(keyed(x, 1)), bytesOf(keyed(y, 0, spans(0, 10)...)), bytesOf(keyed(z, 3))))
				}
			}
		}
	}
}

// P19.4: one of them is out of order, or broken, at the beginning, in the midst and at the end.
func TestAllBroken(t *testing.T) {
	wrong := []api.KeyState{
		keyed("", -1),
		keyed("", 0, spans(0, 10, 0, 10)...),
		keyed("", 0, spans(10, 20, 0, 10)...),
		keyed("", 0, win(0, 10, 0, mostCount+1, 0, 0, 0, 0, 0)),
		keyed(strings.Repeat("b", 300), 0),
	}
	for _, c := range jobs() {
		for at := range 5 {
			for _, w := range wrong {
				l := []api.KeyState{keyed("a", 1), keyed("c", 0, many(3)...), keyed("e", 0), keyed("g", 9, many(1)...)}
				w.Key = string(rune('`'+2*at)) + w.Key
				l = slices.Insert(l, at, w)
				putAll(t, c, l...)
				if _, e := schema.PutAll(c, l...); e != api.ErrState {
					t.Errorf("PutAll with %+v: %d", w, e)
				}
				var b []byte
				for _, k := range l {
					b = append(b, bytesOf(k)...)
				}
				read(t, c, b)
				if l, e := schema.ReadAll(c, b); l != nil || e != api.ErrSchema {
					t.Errorf("ReadAll of %v is %+v, %d", b, l, e)
				}
			}
		}
		l := []api.KeyState{keyed("a", 1, many(2)...), keyed("b", 300), keyed("c", 0, many(1)...)}
		b := slices.Concat(bytesOf(l[0]), bytesOf(l[1]), bytesOf(l[2]))
		for at := range b {
			readAll(t, c, b[:at])
			readAll(t, c, b[at:])
			readAll(t, c, slices.Delete(slices.Clone(b), at, at+1))
			for x := range 256 {
				changed := slices.Clone(b)
				changed[at] = byte(x)
				readAll(t, c, changed)
				readAll(t, c, slices.Insert(slices.Clone(b), at, byte(x)))
			}
		}
	}
}

// P19.4: a great many.
func TestAllOfMany(t *testing.T) {
	r := rand.New(rand.NewSource(1))
	for _, c := range jobs() {
		var l []api.KeyState
		for i := range 3000 {
			l = append(l, keyed(fmt.Sprintf("%04d%s", i, strings.Repeat("k", r.Intn(250))), r.Int63n(300), many(r.Intn(4))...))
		}
		putAll(t, c, l...)
		l[2000].Key = l[1999].Key
		putAll(t, c, l...)
	}
}
