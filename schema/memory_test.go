package schema_test

import (
	"bytes"
	"slices"
	"strings"
	"sync"
	"testing"
	"unsafe"

	"keepsake/api"
	"keepsake/schema"
)

// full is b with spare room behind it that is filled.
func full(b []byte) []byte {
	return slices.Concat(b, bytes.Repeat([]byte{0xee}, 40))[:len(b)]
}

// spoil fills a list and its spare room.
func spoil[T any](l []T, with T) {
	for i := range l[:cap(l)] {
		l[:cap(l)][i] = with
	}
}

// P19.6: what is handed in stays, spare room included.
func TestHandedInStays(t *testing.T) {
	for _, c := range jobs() {
		l := some(c)
		room := append(slices.Clone(l), keyed("behind", 7))
		for i := range room {
			room[i].Windows = slices.Concat(room[i].Windows, spans(900, 901))
			room[i].Windows = room[i].Windows[:len(room[i].Windows)-1]
		}
		handed := room[:len(l)]
		for _, k := range handed {
			schema.Put(c, k)
			schema.Size(c, k)
			schema.PutAll(c, k)
		}
		schema.PutAll(c, handed...)
		schema.PutAll(c, handed[1], handed[0])
		for i, k := range room {
			if i < len(l) && !same(k, l[i]) || k.Windows[:len(k.Windows)+1][len(k.Windows)] != span(900, 901) {
				t.Errorf("%+v is changed", k)
			}
		}
		all, _ := schema.PutAll(c, l...)
		for _, b := range [][]byte{all, all[:len(all)-1], bytesOf(l[3]), bytesOf(keyed("a", -1)), nil, {255}} {
			handed := full(b)
			schema.Read(c, handed)
			schema.Skip(handed)
			schema.ReadAll(c, handed)
			if !bytes.Equal(handed, b) || !bytes.Equal(handed[len(b):cap(handed)][:40], bytes.Repeat([]byte{0xee}, 40)) {
				t.Errorf("%v is changed", b)
			}
		}
	}
}

// P19.6: what is handed in is not kept: it may be overwritten when the call is over.
func TestHandedInIsNotKept(t *testing.T) {
	for _, c := range jobs() {
		for _, k := range some(c) {
			mine := k
			mine.Windows = slices.Clone(k.Windows)
			b, _ := schema.Put(c, mine)
			all, _ := schema.PutAll(c, mine)
			spoil(mine.Windows, span(1, 2))
			if string(b) != string(bytesOf(k)) || string(all) != string(b) {
				t.Errorf("the bytes of %+v hang on what was handed in", k)
			}
			handed := full(b)
			got, _, _ := schema.Read(c, handed)
			key, _, _ := schema.Skip(handed)
			l, _ := schema.ReadAll(c, handed)
			spoil(handed, 0)
			if !same(got, k) || key != k.Key || len(l) != 1 || !same(l[0], k) {
				t.Errorf("the state %+v hangs on what was handed in", k)
			}
		}
	}
}

// P19.6: answers may be overwritten, spare room and all, and nothing else is changed by it.
func TestAnswersAreNew(t *testing.T) {
	for _, c := range jobs() {
		l := some(c)
		all, _ := schema.PutAll(c, l...)
		was := slices.Clone(all)
		for range 3 {
			b, _ := schema.PutAll(c, l...)
			spoil(b, 0xee)
			for _, k := range l {
				b, _ := schema.Put(c, k)
				spoil(b, 0xee)
				put(t, c, k)
			}
			got, _, _ := schema.Read(c, bytesOf(l[3]))
			spoil(got.Windows, span(1, 2))
			read(t, c, bytesOf(l[3]))
			states, _ := schema.ReadAll(c, all)
			for i := range states {
				spoil(states[i].Windows, span(1, 2))
				for at, k := range states[i+1:] {
					if !same(k, l[i+1+at]) {
						t.Errorf("%+v is changed by %q", k, states[i].Key)
					}
				}
			}
			spoil(states, keyed("spoilt", 1))
			if !bytes.Equal(all, was) {
				t.Fatal("the bytes are changed")
			}
			read(t, c, all)
			putAll(t, c, l...)
		}
	}
}

// P19.6: no text of an answer is a part of what was handed in, or of another answer.
func TestTextsAreNew(t *testing.T) {
	names := []string{"aa", strings.Repeat("b", 100), strings.Repeat("c", 256)}
	var l []api.KeyState
	for _, name := range names {
		l = append(l, keyed(name, 1, spans(0, 10)...))
	}
	all, _ := schema.PutAll(tumbling(), l...)
	type stretch struct{ from, until uintptr }
	taken := []stretch{}
	take := func(at *byte, n int) {
		s := stretch{uintptr(unsafe.Pointer(at)), uintptr(unsafe.Pointer(at)) + uintptr(n)}
		for _, other := range taken {
			if s.from < other.until && other.from < s.until {
				t.Error("two texts share memory")
			}
		}
		taken = append(taken, s)
	}
	take(&all[0], len(all))
	var kept [][]api.KeyState
	for range 3 {
		states, _ := schema.ReadAll(tumbling(), all)
		k, _, _ := schema.Read(tumbling(), all)
		key, _, _ := schema.Skip(all)
		states = append(states, k, keyed(key, 0))
		for _, k := range states {
			take(unsafe.StringData(k.Key), len(k.Key))
		}
		kept = append(kept, states)
	}
	if len(kept) != 3 || kept[0][0].Key != names[0] {
		t.Error("the answers are not there any more")
	}
}

// Rules: beside no windows the list is none; beside an error all else is zero.
func TestNoLists(t *testing.T) {
	for _, c := range jobs() {
		if k, _, _ := schema.Read(c, []byte{1, 97, 3, 0}); k.Windows != nil {
			t.Error("no windows are a list")
		}
		if l, _ := schema.ReadAll(c, []byte{1, 97, 3, 0}); len(l) != 1 || l[0].Windows != nil {
			t.Error("no windows are a list")
		}
		if l, _ := schema.ReadAll(c, nil); l != nil {
			t.Error("no states are a list")
		}
	}
}

// Rules: what is told hangs on the arguments alone; goroutines may ask at once.
func TestSideBySide(t *testing.T) {
	c := session()
	l := some(c)
	all, _ := schema.PutAll(c, l...)
	var group sync.WaitGroup
	for range 8 {
		group.Add(1)
		go func() {
			defer group.Done()
			for range 5 {
				putAll(t, c, l...)
				read(t, c, all)
				read(t, c, all[:len(all)-1])
				for _, k := range l {
					put(t, c, k)
				}
			}
		}()
	}
	group.Wait()
}
