package store_test

import (
	"cmp"
	"math/rand"
	"slices"
	"testing"

	"keepsake/store"
)

// anyMap is a map that came about by many calls.
func anyMap(r *rand.Rand, bound int) *store.Map[int, int] {
	m := store.Of[int, int]()
	for i := range r.Intn(3 * bound) {
		if r.Intn(3) == 0 {
			m.Take(r.Intn(bound))
		} else {
			m.Put(r.Intn(bound), i)
		}
	}
	return m
}

func TestAllRises(t *testing.T) {
	r := rand.New(rand.NewSource(3))
	for range 100 {
		m := anyMap(r, 500)
		place, last := 0, -1
		for k, v := range m.All() {
			if k <= last {
				t.Fatalf("%d comes behind %d", k, last)
			}
			if atKey, atValue, ok := m.At(place); atKey != k || atValue != v || !ok {
				t.Fatalf("At(%d) is %d %d %t, All tells %d %d", place, atKey, atValue, ok, k, v)
			}
			if n, ok := m.Place(k); n != place || !ok {
				t.Fatalf("Place(%d) is %d %t, All tells it at %d", k, n, ok, place)
			}
			place, last = place+1, k
		}
		if place != m.Len() {
			t.Fatalf("All tells %d keys, Len is %d", place, m.Len())
		}
	}
}

func TestFromAndBackAreAll(t *testing.T) {
	r := rand.New(rand.NewSource(4))
	for range 200 {
		m := anyMap(r, 100)
		key := r.Intn(102) - 1
		l := keysOf(m.Back(key))
		slices.Reverse(l)
		from := keysOf(m.From(key))
		if _, ok := m.Get(key); ok {
			if len(from) == 0 || len(l) == 0 || from[0] != key || l[len(l)-1] != key {
				t.Fatalf("%d is there: Back tells %v, From %v", key, l, from)
			}
			from = from[1:]
		}
		if l = append(l, from...); !slices.Equal(l, keysOf(m.All())) {
			t.Fatalf("of %d: together %v, All tells %v", key, l, keysOf(m.All()))
		}
	}
}

// orders calls f with each order of the numbers below n.
func orders(n int, f func(l []int)) {
	l := numbers(0, n)
	var swap func(i int)
	swap = func(i int) {
		if i == n {
			f(l)
			return
		}
		for j := i; j < n; j++ {
			l[i], l[j] = l[j], l[i]
			swap(i + 1)
			l[i], l[j] = l[j], l[i]
		}
	}
	swap(0)
}

func TestHoweverTheyCame(t *testing.T) {
	want := &list[int, int]{compare: cmp.Compare[int]}
	for _, k := range []int{1, 3, 5} {
		want.put(k, 10*k)
	}
	orders(7, func(l []int) {
		m := store.Of[int, int]()
		for _, k := range l {
			m.Put(k, k)
		}
		for _, k := range l {
			if k%2 == 0 {
				m.Take(k)
			} else {
				m.Put(k, 10*k)
			}
		}
		same(t, m, want, 3, 4)
	})
}

func TestTheyGoInAnyOrder(t *testing.T) {
	full := store.Of[int, int]()
	for i := range 7 {
		full.Put(i, i)
	}
	orders(7, func(l []int) {
		m := full.Copy()
		for i, k := range l {
			if v, ok := m.Take(k); v != k || !ok || m.Len() != 6-i {
				t.Fatalf("%v: Take(%d) is %d %t, Len is %d", l, k, v, ok, m.Len())
			}
			rest := slices.Sorted(slices.Values(l[i+1:]))
			if !slices.Equal(keysOf(m.All()), rest) {
				t.Fatalf("%v: %v are left behind Take(%d)", l, keysOf(m.All()), k)
			}
		}
	})
}

func TestManyKeys(t *testing.T) {
	const many = 200000
	m := store.Of[int, int]()
	for i := range many {
		m.Put(i*7919%many, i)
	}
	for i := range many {
		if i%3 != 0 {
			m.Take(i)
		}
	}
	if l := keysOf(m.All()); len(l) != (many+2)/3 || m.Len() != len(l) || !slices.IsSorted(l) {
		t.Fatalf("All tells %d keys, Len is %d", len(l), m.Len())
	}
	for place := 0; place < m.Len(); place += 997 {
		if k, _, ok := m.At(place); k != 3*place || !ok {
			t.Fatalf("At(%d) is %d %t", place, k, ok)
		}
		if n, ok := m.Place(3*place + 1); n != place+1 || ok {
			t.Fatalf("Place(%d) is %d %t", 3*place+1, n, ok)
		}
	}
}

// Each two bytes are a call of one of four maps; what they tell is held against lists.
func FuzzCalls(f *testing.F) {
	f.Add([]byte{0, 5, 0, 1, 0, 9, 0, 5, 64, 5, 128, 6, 192, 1})
	f.Fuzz(func(t *testing.T, calls []byte) {
		family := []twin[byte, int]{newTwin[byte, int](t, cmp.Compare[byte])}
		for i := 0; i+1 < len(calls) && i < 2000; i += 2 {
			w := family[int(calls[i]&63)%len(family)]
			switch key := calls[i+1]; calls[i] >> 6 {
			case 0, 1:
				w.put(t, key, i)
			case 2:
				w.take(t, key)
			case 3:
				if len(family) < 4 {
					family = append(family, w.copied())
				}
			}
		}
		for _, w := range family {
			same(t, w.m, w.want, 0, 1, 5, 128, 255)
		}
	})
}
