package timers_test

import (
	"math/rand"
	"slices"
	"sync"
	"testing"

	"keepsake/api"
	"keepsake/timers"
)

func TestCopiesGoOnApart(t *testing.T) {
	a := newTwin(hours(20)...)
	b := a.copied()
	for i := range int64(30) {
		x, y, z := one(i, "k", 0, 1), one(2*i, "k", 0, 1), one(-i, "z", 0, 1)
		a.set(t, z)
		b.same(t, z)
		b.drop(t, y)
		a.same(t, y)
		b.move(t, x, z)
		a.same(t, x, z)
		a.move(t, z, y)
		b.same(t, z, y)
		if i%7 == 3 {
			a.due(t, i/2)
			b.same(t, x)
			b.due(t, -i/2)
			a.same(t, x)
		}
	}
	a.same(t, hours(60)...)
	b.same(t, hours(60)...)
}

func TestCopyOfNone(t *testing.T) {
	a := newTwin()
	b := a.copied()
	if b.q == nil || a.q == b.q {
		t.Fatal("the copy is not there, or the timers themselves")
	}
	b.set(t, one(1, "a", 0, 1))
	a.same(t, one(1, "a", 0, 1))
	b.same(t)
	a.set(t, one(2, "a", 0, 1))
	b.same(t, one(2, "a", 0, 1))
	a.same(t)
}

// Spare room behind what is set is not shared either: both sides put something in.
func TestCopyWithRoom(t *testing.T) {
	for n := range 20 {
		a := newTwin(hours(20)...)
		a.due(t, int64(n))
		b := a.copied()
		for i := range int64(5) {
			a.set(t, one(-i, "a", 0, 1))
			b.set(t, one(-i, "b", 0, 1))
			a.same(t, one(-i, "b", 0, 1))
			b.same(t, one(-i, "a", 0, 1))
		}
	}
}

// A whole family, copied from one another, each with its own calls.
func TestCopiesOfCopies(t *testing.T) {
	r := rand.New(rand.NewSource(4))
	for range 20 {
		family := []twin{newTwin(few(r), few(r), few(r))}
		for range 300 {
			w := family[r.Intn(len(family))]
			if r.Intn(20) == 0 && len(family) < 10 {
				family = append(family, w.copied())
			}
			anyCall(t, r, w, few)
			family[r.Intn(len(family))].same(t, few(r))
		}
		for _, w := range family {
			w.same(t)
			w.due(t, greatest)
			w.same(t)
		}
	}
}

func TestAllOfCopy(t *testing.T) {
	list := hours(30)
	q := timers.New(list...)
	c := q.Copy()
	var told []api.Timer
	for x := range c.All() {
		told = append(told, x)
		q.Drop(x)
	}
	if !slices.Equal(told, list) || q.Len() != 0 || c.Len() != 30 {
		t.Errorf("the copy tells %v and has %d, the other one has %d", told, c.Len(), q.Len())
	}
}

// Timers that nobody changes are read by many at a time, while copies of them are changed.
func TestReadSideBySide(t *testing.T) {
	q := timers.New(hours(500)...)
	var all sync.WaitGroup
	counts := make([]int, 8)
	for g := range counts {
		all.Add(1)
		go func() {
			defer all.Done()
			c := q.Copy()
			c.Due(int64(50 * g))
			c.Set(one(-1, "new", 0, 1))
			for x := range q.All() {
				if _, ok := q.Next(); ok && q.Has(x) && q.Len() == 500 {
					counts[g]++
				}
			}
		}()
	}
	all.Wait()
	for g, n := range counts {
		if n != 500 {
			t.Errorf("the reader %d comes to %d", g, n)
		}
	}
}
