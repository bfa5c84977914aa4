package store_test

import (
	"cmp"
	"math/rand"
	"slices"
	"sync"
	"testing"

	"keepsake/api"
	"keepsake/store"
)

func TestCopiesGoOnApart(t *testing.T) {
	a := newTwin[int, int](t, falling)
	for i := range 20 {
		a.put(t, i, i)
	}
	b := a.copied()
	for i := range 30 {
		a.put(t, i, -i)
		same(t, b.m, b.want, i)
		b.take(t, 2*i)
		same(t, a.m, a.want, 2*i)
		b.put(t, 3*i, 7*i)
		same(t, a.m, a.want, 3*i)
		a.take(t, 3*i)
		same(t, b.m, b.want, 3*i)
	}
	same(t, a.m, a.want, numbers(-1, 91)...)
	same(t, b.m, b.want, numbers(-1, 91)...)
}

func TestCopyOfNoKeys(t *testing.T) {
	a := newTwin[int, int](t, falling)
	b := a.copied()
	b.put(t, 1, 1)
	b.put(t, 2, 2)
	same(t, a.m, a.want, 1, 2)
	same(t, b.m, b.want, 1, 2)
	if a.m == b.m {
		t.Error("a copy is the map itself")
	}
}

// A whole family of maps, copied from one another, each with its own calls.
func TestCopiesOfCopies(t *testing.T) {
	r := rand.New(rand.NewSource(2))
	for range 20 {
		family := []twin[int, int]{newTwin[int, int](t, cmp.Compare[int])}
		for step := range 400 {
			w := family[r.Intn(len(family))]
			switch key := r.Intn(30); r.Intn(8) {
			case 0:
				if len(family) < 12 {
					family = append(family, w.copied())
				}
			case 1, 2, 3:
				w.take(t, key)
			default:
				w.put(t, key, step)
			}
			if step%10 == 0 {
				for _, w := range family {
					same(t, w.m, w.want, r.Intn(32)-1)
				}
			}
		}
		for _, w := range family {
			same(t, w.m, w.want, numbers(-1, 31)...)
		}
	}
}

func TestCopyMeanwhile(t *testing.T) {
	m := store.Of[int, int]()
	for i := range 10 {
		m.Put(i, i)
	}
	var copies []*store.Map[int, int]
	for k := range m.All() {
		copies = append(copies, m.Copy())
		m.Take(k)
	}
	for i, c := range copies {
		if l := keysOf(c.All()); !slices.Equal(l, numbers(i, 10)) {
			t.Errorf("the copy %d has %v", i, l)
		}
	}
	n := 0
	c := copies[0]
	for range c.All() {
		other := c.Copy()
		other.Take(n)
		n++
	}
	if n != 10 || c.Len() != 10 {
		t.Errorf("the walk tells %d keys, Len is %d", n, c.Len())
	}
}

// A walk of a map goes on when its copy is changed, and one of the copy when the map is.
func TestWalkOfCopy(t *testing.T) {
	m := store.Of[int, int]()
	for i := range 50 {
		m.Put(i, i)
	}
	c := m.Copy()
	var a, b []int
	for k := range c.All() {
		a = append(a, k)
		m.Take(49 - k)
	}
	for k := range m.From(0) {
		b = append(b, k)
	}
	if !slices.Equal(a, numbers(0, 50)) || len(b) != 0 {
		t.Errorf("the walks tell %v and %v", a, b)
	}
}

// However many keys there are: no more memory is taken for a copy, and what is put behind it takes little.
func TestCopyAtOnce(t *testing.T) {
	for _, many := range []int{1, 100, 1 << 17} {
		m := store.Of[int, int]()
		for i := range many {
			m.Put(i, i)
		}
		var kept []*store.Map[int, int]
		if n := testing.AllocsPerRun(1000, func() { kept = append(kept, m.Copy()) }); n > 2 {
			t.Errorf("%d keys: a copy takes %v pieces of memory", many, n)
		}
		if n := testing.AllocsPerRun(1000, func() {
			c := m.Copy()
			c.Put(many/2, -1)
			c.Take(many / 3)
			m.Put(many/4, 5)
			kept = append(kept, c)
		}); n > 200 {
			t.Errorf("%d keys: changes behind a copy take %v pieces of memory", many, n)
		}
		if len(kept) < 2000 || kept[0].Len() != many || kept[len(kept)-1].Len() != many-1 {
			t.Errorf("%d keys: the copies have others", many)
		}
	}
}

func TestNothing(t *testing.T) {
	var none *store.Map[int, string]
	for name, m := range map[string]*store.Map[int, string]{"nil": none, "zero": new(store.Map[int, string]), "refused": refused()} {
		for range 2 {
			if was, had, e := m.Put(1, "x"); was != "" || had || e != api.ErrNil {
				t.Errorf("%s: Put is %q %t %v", name, was, had, e)
			}
			if v, ok := m.Get(1); v != "" || ok {
				t.Errorf("%s: Get is %q %t", name, v, ok)
			}
			if v, ok := m.Take(1); v != "" || ok {
				t.Errorf("%s: Take is %q %t", name, v, ok)
			}
			if n := m.Len(); n != 0 {
				t.Errorf("%s: Len is %d", name, n)
			}
			if n, ok := m.Place(1); n != 0 || ok {
				t.Errorf("%s: Place is %d %t", name, n, ok)
			}
			for _, place := range []int{-1, 0, 1} {
				if k, v, ok := m.At(place); k != 0 || v != "" || ok {
					t.Errorf("%s: At(%d) is %d %q %t", name, place, k, v, ok)
				}
			}
			for walk, w := range walks(m, 1) {
				if w == nil || len(told(w)) != 0 {
					t.Errorf("%s: %s tells something, or is not there", name, walk)
				}
			}
			if c := m.Copy(); c != nil {
				t.Errorf("%s: Copy is %v", name, c)
			}
		}
	}
}

// refused is what New answers beside its error.
func refused() *store.Map[int, string] {
	m, _ := store.New[int, string](nil)
	return m
}

// Maps that nobody changes are read by many at a time, while copies of them are changed.
func TestReadSideBySide(t *testing.T) {
	m := store.Of[int, int]()
	for i := range 1000 {
		m.Put(i, i)
	}
	var all sync.WaitGroup
	sums := make([]int, 8)
	for g := range sums {
		all.Add(1)
		go func() {
			defer all.Done()
			c := m.Copy()
			for i := range 500 {
				c.Take(i * (g + 1) % 1000)
			}
			for k, v := range m.All() {
				place, _ := m.Place(k)
				value, _ := m.Get(place)
				sums[g] += v + value - place
			}
		}()
	}
	all.Wait()
	for g, sum := range sums {
		if sum != 999*1000/2 {
			t.Errorf("the reader %d comes to %d", g, sum)
		}
	}
}
