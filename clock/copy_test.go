package clock_test

import (
	"math/rand"
	"slices"
	"strings"
	"sync"
	"testing"
	"unsafe"

	"keepsake/api"
	"keepsake/clock"
)

func TestCopiesGoOnApart(t *testing.T) {
	a := twinOf(t, 1, 2, 3)
	for i, name := range manyNames() {
		a.hold(t, name, int64(i*5%7))
	}
	b := a.copied(t)
	b.same(t)
	for i, name := range manyNames() {
		a.set(t, i%3, int64(i))
		b.same(t)
		b.set(t, (i+1)%3, int64(2*i))
		a.same(t)
		a.hold(t, name, int64(-i))
		b.same(t)
		b.free(t, name)
		a.same(t)
		b.hold(t, name+"b", int64(i))
		a.same(t)
		a.free(t, manyNames()[0])
		b.same(t)
	}
	a.same(t)
	b.same(t)
}

// A copy that is changed first leaves its origin alone, too.
func TestCopyChangedFirst(t *testing.T) {
	a := twinOf(t, 1)
	a.hold(t, "a", 5)
	b := a.copied(t)
	b.hold(t, "a", 3)
	b.set(t, 0, 9)
	a.same(t)
	b.free(t, "a")
	a.same(t)
	b.same(t)
}

func TestCopyWithoutHolds(t *testing.T) {
	a := twinOf(t, 4)
	b := a.copied(t)
	b.same(t)
	b.hold(t, "a", 1)
	a.same(t)
	a.hold(t, "b", 2)
	b.same(t)
	a.set(t, 0, 9)
	b.same(t)
}

// Both sides put something in, whatever room is left where the holds stand.
func TestCopyWithRoom(t *testing.T) {
	names := manyNames()
	for n := range names {
		a := full(t)
		for _, name := range names[:n] {
			a.free(t, name)
		}
		b := a.copied(t)
		for i := range int64(5) {
			a.hold(t, "new", -i)
			b.hold(t, "newer", -i)
			a.same(t)
			b.same(t)
		}
	}
}

// A whole family, copied from one another, each with its own calls.
func TestCopiesOfCopies(t *testing.T) {
	r := rand.New(rand.NewSource(4))
	for range 20 {
		family := []twin{twinOf(t, 0, 0, 0)}
		for range 300 {
			w := family[r.Intn(len(family))]
			if r.Intn(20) == 0 && len(family) < 10 {
				family = append(family, w.copied(t))
			}
			anyCall(t, r, w, few)
			family[r.Intn(len(family))].same(t)
		}
		for _, w := range family {
			w.same(t)
		}
	}
}

func TestHoldsOfCopy(t *testing.T) {
	w := full(t)
	want := w.want.rising()
	d := w.c.Copy()
	var l []held
	for name, time := range d.Holds() {
		l = append(l, held{name, time})
		w.c.Free(name)
	}
	if !slices.Equal(l, want) || w.c.Len() != 0 || d.Len() != len(want) {
		t.Errorf("the copy tells %v and has %d, the other one has %d", l, d.Len(), w.c.Len())
	}
}

// A clock that is assigned is the same one: no call goes astray between the two.
func TestAssignedClock(t *testing.T) {
	w := full(t)
	other := *w.c
	w.hold(t, "one", 1)
	other.Hold("two", 2)
	w.want.hold("two", 2)
	other.Free("one")
	w.want.free("one")
	other.Set(0, 5)
	w.want.set(0, 5)
	w.same(t)
	w.free(t, "two")
	twin{&other, w.want}.same(t)
}

func TestOfLeavesItsListAlone(t *testing.T) {
	room := []int64{5, 4, 3, 99, 98}
	marks, was := room[:3], slices.Clone(room)
	w := twinOf(t, marks...)
	w.set(t, 0, 7)
	w.set(t, 2, 8)
	w.set(t, 1, 9)
	if !slices.Equal(room, was) {
		t.Errorf("the list is %v then", room)
	}
	clear(room)
	w.same(t)
}

func TestMarksAreNewMemory(t *testing.T) {
	for n := 1; n <= 64; n++ {
		w := twinOf(t, slices.Repeat([]int64{4}, n)...)
		one, two := w.c.Marks(), w.c.Marks()
		clear(one[:cap(one)])
		w.same(t)
		w.set(t, n-1, 6)
		if !slices.Equal(two, slices.Repeat([]int64{4}, n)) {
			t.Errorf("an answer is changed by a later call: %v", two)
		}
		d := w.copied(t)
		clear(two[:cap(two)])
		l := d.c.Marks()
		clear(l[:cap(l)])
		w.same(t)
		d.same(t)
	}
}

func TestNamesAreNewMemory(t *testing.T) {
	long := strings.Repeat("name", 50)
	c, _ := clock.New(1)
	c.Hold(long, 3)
	c.Hold(long, 4)
	seen := map[*byte]int{unsafe.StringData(long): 1}
	tell := func(who, name string) {
		t.Helper()
		seen[unsafe.StringData(name)]++
		if name != long || seen[unsafe.StringData(name)] != 1 {
			t.Errorf("the name that %s tells is another one, or stands in memory that is known", who)
		}
	}
	for range 2 {
		for _, x := range []*clock.Clock{c, c.Copy()} {
			name, _, _ := x.First()
			tell("First", name)
			for name := range x.Holds() {
				tell("Holds", name)
			}
		}
	}
}

// A clock that nobody changes is read by many at a time, while copies of it are changed.
func TestReadSideBySide(t *testing.T) {
	c, _ := clock.Of(1000, 2000)
	for i := range 500 {
		c.Hold(string(rune('a'+i)), int64(500-i))
	}
	var all sync.WaitGroup
	counts := make([]int, 8)
	for g := range counts {
		all.Go(func() {
			d := c.Copy()
			d.Set(0, 1500)
			d.Free("a")
			d.Hold("new", -1)
			for range c.Holds() {
				_, time, ok := c.First()
				if ok && time == 1 && c.Mark() == 1000 && c.Outward() == 1 && c.Len() == 500 && len(c.Marks()) == 2 {
					counts[g]++
				}
			}
		})
	}
	all.Wait()
	for g, n := range counts {
		if n != 500 {
			t.Errorf("the reader %d comes to %d", g, n)
		}
	}
	if e := c.Hold("new", 0); e != api.OK || c.Outward() != 0 {
		t.Errorf("behind them Hold is %v, Outward %d", e, c.Outward())
	}
}
