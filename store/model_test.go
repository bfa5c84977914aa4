package store_test

import (
	"cmp"
	"iter"
	"slices"
	"testing"

	"keepsake/api"
	"keepsake/store"
)

// entry is a key with its value.
type entry[K, V any] struct {
	key   K
	value V
}

// list is what a map is, as the chapter words it: entries in order, no key twice.
type list[K, V any] struct {
	compare func(a, b K) int
	entries []entry[K, V]
}

// placeOf is how many keys come ahead of one, and whether it is there.
func (l *list[K, V]) placeOf(key K) (int, bool) {
	place, there := 0, false
	for _, x := range l.entries {
		c := l.compare(x.key, key)
		if c < 0 {
			place++
		}
		there = there || c == 0
	}
	return place, there
}

func (l *list[K, V]) put(key K, value V) (was V, had bool) {
	place, had := l.placeOf(key)
	if had {
		was, l.entries[place].value = l.entries[place].value, value
		return was, true
	}
	l.entries = slices.Insert(l.entries, place, entry[K, V]{key, value})
	return was, false
}

func (l *list[K, V]) get(key K) (value V, had bool) {
	place, had := l.placeOf(key)
	if had {
		value = l.entries[place].value
	}
	return value, had
}

func (l *list[K, V]) take(key K) (V, bool) {
	value, had := l.get(key)
	l.entries = slices.DeleteFunc(l.entries, func(x entry[K, V]) bool { return l.compare(x.key, key) == 0 })
	return value, had
}

func (l *list[K, V]) copied() *list[K, V] {
	return &list[K, V]{l.compare, slices.Clone(l.entries)}
}

// from are the entries that are not ahead of a key.
func (l *list[K, V]) from(key K) (told []entry[K, V]) {
	for _, x := range l.entries {
		if l.compare(x.key, key) >= 0 {
			told = append(told, x)
		}
	}
	return told
}

// back are the entries that are not behind a key, the other way round.
func (l *list[K, V]) back(key K) (told []entry[K, V]) {
	for _, x := range l.entries {
		if l.compare(x.key, key) <= 0 {
			told = append(told, x)
		}
	}
	slices.Reverse(told)
	return told
}

// told is all that a walk tells.
func told[K, V any](w iter.Seq2[K, V]) (l []entry[K, V]) {
	for k, v := range w {
		l = append(l, entry[K, V]{k, v})
	}
	return l
}

// keysOf are the keys that a walk tells.
func keysOf[K, V any](w iter.Seq2[K, V]) (l []K) {
	for k := range w {
		l = append(l, k)
	}
	return l
}

// same holds all that is told of a map as a whole against what it should be, and of each of these keys.
func same[K, V comparable](t *testing.T, m *store.Map[K, V], want *list[K, V], keys ...K) {
	t.Helper()
	if n := m.Len(); n != len(want.entries) {
		t.Fatalf("Len is %d, want %d", n, len(want.entries))
	}
	if l := told(m.All()); !slices.Equal(l, want.entries) {
		t.Fatalf("All tells %v, want %v", l, want.entries)
	}
	for place := -2; place < len(want.entries)+2; place++ {
		var x entry[K, V]
		has := place >= 0 && place < len(want.entries)
		if has {
			x = want.entries[place]
		}
		if k, v, ok := m.At(place); k != x.key || v != x.value || ok != has {
			t.Fatalf("At(%d) is %v %v %t, want %v %t", place, k, v, ok, x, has)
		}
	}
	for _, key := range keys {
		sameKey(t, m, want, key)
	}
}

// sameKey holds what is told of a key against what it should be.
func sameKey[K, V comparable](t *testing.T, m *store.Map[K, V], want *list[K, V], key K) {
	t.Helper()
	wantValue, has := want.get(key)
	if v, ok := m.Get(key); v != wantValue || ok != has {
		t.Fatalf("Get(%v) is %v %t, want %v %t", key, v, ok, wantValue, has)
	}
	wantPlace, _ := want.placeOf(key)
	if n, ok := m.Place(key); n != wantPlace || ok != has {
		t.Fatalf("Place(%v) is %d %t, want %d %t", key, n, ok, wantPlace, has)
	}
	if l := told(m.From(key)); !slices.Equal(l, want.from(key)) {
		t.Fatalf("From(%v) tells %v, want %v", key, l, want.from(key))
	}
	if l := told(m.Back(key)); !slices.Equal(l, want.back(key)) {
		t.Fatalf("Back(%v) tells %v, want %v", key, l, want.back(key))
	}
}

// twin is a map with what it should be.
type twin[K, V comparable] struct {
	m    *store.Map[K, V]
	want *list[K, V]
}

// newTwin is a map without keys, with an order.
func newTwin[K, V comparable](t *testing.T, compare func(a, b K) int) twin[K, V] {
	t.Helper()
	m, e := store.New[K, V](compare)
	if m == nil || e != api.OK {
		t.Fatalf("New is %v, %v", m, e)
	}
	return twin[K, V]{m, &list[K, V]{compare: compare}}
}

func (w twin[K, V]) put(t *testing.T, key K, value V) {
	t.Helper()
	wantWas, wantHad := w.want.put(key, value)
	if was, had, e := w.m.Put(key, value); was != wantWas || had != wantHad || e != api.OK {
		t.Fatalf("Put(%v, %v) is %v %t %v, want %v %t", key, value, was, had, e, wantWas, wantHad)
	}
}

func (w twin[K, V]) take(t *testing.T, key K) {
	t.Helper()
	wantWas, wantHad := w.want.take(key)
	if was, had := w.m.Take(key); was != wantWas || had != wantHad {
		t.Fatalf("Take(%v) is %v %t, want %v %t", key, was, had, wantWas, wantHad)
	}
}

func (w twin[K, V]) copied() twin[K, V] { return twin[K, V]{w.m.Copy(), w.want.copied()} }

// falling is the order of numbers the other way round.
func falling(a, b int) int { return cmp.Compare(b, a) }

// far is an order whose answers are as great as they can be.
func far(a, b int) int {
	switch {
	case a < b:
		return -1 << 63
	case a > b:
		return 1<<63 - 1
	}
	return 0
}

// numbers are those from first on up to below behind.
func numbers(first, behind int) (l []int) {
	for i := first; i < behind; i++ {
		l = append(l, i)
	}
	return l
}
