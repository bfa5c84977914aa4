package store_test

import (
	"cmp"
	"iter"
	"math/rand"
	"slices"
	"testing"

	"keepsake/store"
)

// walks are those that a map has, by name, from a key on.
func walks[K, V any](m *store.Map[K, V], key K) map[string]iter.Seq2[K, V] {
	return map[string]iter.Seq2[K, V]{"All": m.All(), "From": m.From(key), "Back": m.Back(key)}
}

func TestChangedMeanwhile(t *testing.T) {
	m := store.Of[int, string]()
	for _, k := range []int{1, 5, 9} {
		m.Put(k, "x")
	}
	var l []int
	for k := range m.All() {
		l = append(l, k)
		m.Take(k)
		m.Put(10*k, "y")
	}
	if !slices.Equal(l, []int{1, 5, 9}) || !slices.Equal(keysOf(m.All()), []int{10, 50, 90}) {
		t.Errorf("the walk tells %v; there are %v then", l, keysOf(m.All()))
	}
}

// Whatever is done while a walk is under way, it tells what there was.
func TestAnythingMeanwhile(t *testing.T) {
	r := rand.New(rand.NewSource(1))
	for range 200 {
		m := store.Of[int, int]()
		many := r.Intn(40)
		for i := range many {
			m.Put(r.Intn(60), i)
		}
		for name, w := range walks(m, r.Intn(60)) {
			want := told(w)
			var got []entry[int, int]
			for k, v := range w {
				got = append(got, entry[int, int]{k, v})
				for range r.Intn(10) {
					if r.Intn(2) == 0 {
						m.Put(r.Intn(60), -r.Intn(1000))
					} else {
						m.Take(r.Intn(60))
					}
				}
			}
			if !slices.Equal(got, want) {
				t.Fatalf("%s tells %v, there was %v", name, got, want)
			}
		}
	}
}

func TestEmptiedMeanwhile(t *testing.T) {
	m := store.Of[int, int]()
	for i := range 100 {
		m.Put(i, i)
	}
	n := 0
	for k, v := range m.From(20) {
		if n == 0 {
			for i := range 100 {
				m.Take(i)
			}
		}
		if k != 20+n || v != k || m.Len() != 0 {
			t.Fatalf("the walk tells %d %d", k, v)
		}
		n++
	}
	if n != 80 {
		t.Errorf("the walk tells %d keys", n)
	}
}

// A value that is put over another one meanwhile is not told by the walk that is under way.
func TestValuesMeanwhile(t *testing.T) {
	m := store.Of[int, string]()
	for i := range 10 {
		m.Put(i, "old")
	}
	for k, v := range m.Back(7) {
		if v != "old" {
			t.Errorf("%d has %q", k, v)
		}
		for i := range 10 {
			m.Put(i, "new")
		}
	}
	for k, v := range m.All() {
		if v != "new" {
			t.Errorf("%d has %q then", k, v)
		}
	}
}

func TestGoneOverAgain(t *testing.T) {
	m := store.Of[int, string]()
	all, from, back := m.All(), m.From(5), m.Back(5)
	for _, r := range []struct {
		put             int
		all, from, back []int
	}{
		{5, []int{5}, []int{5}, []int{5}},
		{1, []int{1, 5}, []int{5}, []int{5, 1}},
		{9, []int{1, 5, 9}, []int{5, 9}, []int{5, 1}},
		{4, []int{1, 4, 5, 9}, []int{5, 9}, []int{5, 4, 1}},
	} {
		m.Put(r.put, "x")
		for range 2 {
			if !slices.Equal(keysOf(all), r.all) || !slices.Equal(keysOf(from), r.from) || !slices.Equal(keysOf(back), r.back) {
				t.Errorf("behind Put(%d): %v, %v, %v", r.put, keysOf(all), keysOf(from), keysOf(back))
			}
		}
	}
	for _, k := range []int{1, 4, 5, 9} {
		m.Take(k)
	}
	if len(keysOf(all))+len(keysOf(from))+len(keysOf(back)) != 0 {
		t.Error("walks over a map that has lost its keys tell some")
	}
}

func TestLeftAnywhere(t *testing.T) {
	m := store.Of[int, int]()
	for i := range 33 {
		m.Put(i*7%33, i)
	}
	for name, w := range walks(m, 16) {
		want := told(w)
		for leave := range len(want) {
			var got []entry[int, int]
			// The walk is called by hand, so that a call of the function behind its false is seen.
			w(func(k, v int) bool {
				got = append(got, entry[int, int]{k, v})
				return len(got) <= leave
			})
			if !slices.Equal(got, want[:leave+1]) {
				t.Fatalf("%s left at %d tells %v", name, leave, got)
			}
			if l := told(w); !slices.Equal(l, want) {
				t.Fatalf("%s gone over again tells %v", name, l)
			}
		}
	}
}

func TestWalksInWalks(t *testing.T) {
	m := store.Of[int, int]()
	for i := range 12 {
		m.Put(i, i)
	}
	w := m.All()
	n := 0
	for a := range w {
		for b := range w {
			for c := range m.Back(b) {
				if c > b {
					t.Fatalf("Back(%d) tells %d", b, c)
				}
				n++
			}
			if b == a {
				break
			}
		}
	}
	if n != 12*13*14/6 {
		t.Errorf("%d keys are told in all", n)
	}
}

// Walks that go on in turns, each of which begins when it is first asked.
func TestWalksSideBySide(t *testing.T) {
	m := store.Of[int, string]()
	for _, k := range []int{1, 2, 3} {
		m.Put(k, "x")
	}
	w := m.All()
	first, stopFirst := iter.Pull2(w)
	defer stopFirst()
	second, stopSecond := iter.Pull2(w)
	defer stopSecond()
	if k, _, ok := first(); k != 1 || !ok {
		t.Fatalf("the first one begins with %d", k)
	}
	m.Put(0, "y")
	m.Take(2)
	var a, b []int
	for k, _, ok := second(); ok; k, _, ok = second() {
		b = append(b, k)
		if k, _, ok := first(); ok {
			a = append(a, k)
		}
	}
	if !slices.Equal(a, []int{2, 3}) || !slices.Equal(b, []int{0, 1, 3}) {
		t.Errorf("the walks tell %v and %v", a, b)
	}
}

func TestWalksFromEveryKey(t *testing.T) {
	for _, compare := range []func(a, b int) int{cmp.Compare[int], falling, far} {
		for many := range 40 {
			w := newTwin[int, int](t, compare)
			for i := range many {
				w.put(t, i*17%41*2, i)
			}
			for key := -1; key < 83; key++ {
				sameKey(t, w.m, w.want, key)
			}
		}
	}
}

func TestWalksTellNothing(t *testing.T) {
	m := store.Of[int, int]()
	for name, w := range walks(m, 0) {
		if w == nil || len(told(w)) != 0 {
			t.Errorf("%s of a map without keys", name)
		}
	}
	m.Put(5, 5)
	if len(keysOf(m.From(6))) != 0 || len(keysOf(m.Back(4))) != 0 {
		t.Error("From behind the last key, Back ahead of the first one")
	}
}

// A walk that is left at once goes down the tree, and does not go over it.
func TestWalkBeginsAtOnce(t *testing.T) {
	m := store.Of[int, int]()
	for i := range 1 << 16 {
		m.Put(i, i)
	}
	for name, w := range walks(m, 1<<15) {
		if n := testing.AllocsPerRun(10, func() {
			for range w {
				break
			}
		}); n > 20 {
			t.Errorf("%s, left at once, takes %v pieces of memory", name, n)
		}
	}
}
