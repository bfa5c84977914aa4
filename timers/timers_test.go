package timers_test

import (
	"slices"
	"strings"
	"testing"
	"unsafe"

	"keepsake/api"
	"keepsake/timers"
)

func TestExamples(t *testing.T) {
	q := timers.New(one(5, "b", 0, 5), one(5, "a", 0, 5), one(3, "b", 1, 3), one(5, "a", 0, 5))
	if n := q.Len(); n != 3 {
		t.Errorf("Len is %d", n)
	}
	if x, ok := q.Next(); x != one(3, "b", 1, 3) || !ok {
		t.Errorf("Next is %v %t", x, ok)
	}
	if ok, e := q.Set(one(5, "a", 0, 5)); ok || e != api.OK {
		t.Errorf("Set(5 a [0, 5)) is %t %v", ok, e)
	}
	if ok, e := q.Set(one(5, "a", -1, 5)); !ok || e != api.OK {
		t.Errorf("Set(5 a [-1, 5)) is %t %v", ok, e)
	}
	all := []api.Timer{one(3, "b", 1, 3), one(5, "a", -1, 5), one(5, "a", 0, 5), one(5, "b", 0, 5)}
	if l := slices.Collect(q.All()); !slices.Equal(l, all) {
		t.Errorf("All tells %v", l)
	}
	for i, want := range [][]api.Timer{nil, {one(3, "b", 1, 3)}, nil} {
		upto := []int64{2, 4, 4}[i]
		if l := q.Due(upto); !slices.Equal(l, want) {
			t.Errorf("Due(%d) is %v, want %v", upto, l, want)
		}
	}
	for _, want := range []bool{true, false} {
		if was, e := q.Move(one(5, "b", 0, 5), one(9, "b", 0, 9)); was != want || e != api.OK {
			t.Errorf("Move is %t %v, want %t", was, e, want)
		}
	}
	if q.Drop(one(7, "x", 0, 1)) {
		t.Error("Drop(7 x [0, 1)) is true")
	}
	if l := q.Due(100); !slices.Equal(l, []api.Timer{one(5, "a", -1, 5), one(5, "a", 0, 5), one(9, "b", 0, 9)}) {
		t.Errorf("Due(100) is %v", l)
	}
}

// Each field's values rise; the timers that are made of them, the first field slowest, rise too.
func TestCompare(t *testing.T) {
	numbers := []int64{least, -1, 0, 1, greatest}
	keys := []string{"", "\x00", "a", "a\x00", "aa", "b", "ä", "\xff", strings.Repeat("\xff", 300)}
	var rising []api.Timer
	for _, at := range numbers {
		for _, key := range keys {
			for _, start := range numbers {
				for _, end := range numbers {
					rising = append(rising, one(at, key, start, end))
				}
			}
		}
	}
	for i, a := range rising {
		for j, b := range rising {
			want := 0
			if i < j {
				want = -1
			} else if i > j {
				want = 1
			}
			if c := timers.Compare(a, b); c != want {
				t.Fatalf("Compare(%v, %v) is %d, want %d", a, b, c, want)
			}
		}
	}
}

func TestNew(t *testing.T) {
	for _, q := range []*timers.Timers{timers.New(), timers.New(nil...), timers.New([]api.Timer{}...)} {
		if q == nil {
			t.Fatal("New of none is nil")
		}
		same(t, q, new(pile), api.Timer{})
	}
	zero := newTwin(api.Timer{})
	zero.same(t)
	zero.due(t, -1)
	zero.due(t, 0)
	zero.same(t, api.Timer{})
	twice := newTwin(one(1, "a", 0, 1), one(2, "a", 0, 1), one(1, "a", 0, 1), one(2, "a", 0, 1), one(1, "a", 0, 1))
	twice.same(t)
	twice.drop(t, one(1, "a", 0, 1))
	twice.drop(t, one(1, "a", 0, 1))
	twice.same(t, one(1, "a", 0, 1))
}

func TestNewOnesAreApart(t *testing.T) {
	x := one(1, "a", 0, 1)
	a, b := timers.New(), timers.New()
	a.Set(x)
	if b.Has(x) || b.Len() != 0 {
		t.Error("what is set of one is set of another one")
	}
}

func TestNewLeavesItsListAlone(t *testing.T) {
	room := []api.Timer{one(5, "a", 0, 1), one(4, "b", 0, 1), one(3, "c", 0, 1), one(9, "room", 0, 1), one(8, "room", 0, 1)}
	list, was := room[:3], slices.Clone(room)
	w := newTwin(list...)
	w.set(t, one(1, "d", 0, 1))
	w.due(t, 3)
	if !slices.Equal(room, was) {
		t.Errorf("the list is %v then", room)
	}
	clear(list)
	w.same(t, api.Timer{})
}

func TestTimersThatDifferInOneField(t *testing.T) {
	for _, x := range []api.Timer{{}, one(5, "a", 0, 5), one(least, "\xff", least, least), one(greatest-1, "", greatest-1, greatest-1)} {
		others := nearly(x)
		w := newTwin(x)
		w.same(t, others...)
		for _, y := range others {
			w.drop(t, y)
			w.same(t, others...)
		}
		for _, y := range others {
			w.set(t, y)
			w.set(t, y)
			w.same(t, others...)
		}
		w.drop(t, x)
		w.same(t, x)
		w.due(t, x.At)
		w.same(t, others...)
		w.due(t, x.At+1)
		w.same(t, others...)
	}
}

func TestSetAndDrop(t *testing.T) {
	x := one(1, "a", 0, 1)
	w := newTwin()
	w.drop(t, x)
	for range 3 {
		w.set(t, x)
		w.set(t, x)
		w.same(t, x)
		w.drop(t, x)
		w.drop(t, x)
		w.same(t, x)
	}
	w.set(t, x)
	w.due(t, 1)
	w.drop(t, x)
	w.set(t, x)
	w.same(t)
}

func TestMove(t *testing.T) {
	a, b, c, d := one(1, "a", 0, 1), one(2, "a", 0, 1), one(3, "a", 0, 1), one(4, "a", 0, 1)
	for _, from := range []api.Timer{a, b, c, d} {
		for _, to := range []api.Timer{a, b, c, d} {
			for _, w := range []twin{newTwin(), newTwin(a), newTwin(a, b), newTwin(b, c), newTwin(c, b, a), newTwin(d, c, b, a)} {
				w.move(t, from, to)
				w.same(t, a, b, c, d)
				w.move(t, from, to)
				w.same(t, a, b, c, d)
				w.move(t, to, from)
				w.same(t, a, b, c, d)
			}
		}
	}
}

func TestMoveSaysWhetherFromWasSet(t *testing.T) {
	a, b := one(1, "a", 0, 1), one(2, "b", 0, 1)
	for _, r := range []struct {
		q        *timers.Timers
		from, to api.Timer
		was      bool
		left     []api.Timer
	}{
		{timers.New(a), a, b, true, []api.Timer{b}},
		{timers.New(a, b), a, b, true, []api.Timer{b}},
		{timers.New(b), a, b, false, []api.Timer{b}},
		{timers.New(), a, b, false, []api.Timer{b}},
		{timers.New(a), a, a, true, []api.Timer{a}},
		{timers.New(), a, a, false, []api.Timer{a}},
		{timers.New(b), a, a, false, []api.Timer{a, b}},
	} {
		before := slices.Collect(r.q.All())
		if was, e := r.q.Move(r.from, r.to); was != r.was || e != api.OK {
			t.Errorf("Move(%v, %v) of %v is %t %v", r.from, r.to, before, was, e)
		}
		if l := slices.Collect(r.q.All()); !slices.Equal(l, r.left) {
			t.Errorf("Move(%v, %v) of %v leaves %v", r.from, r.to, before, l)
		}
	}
}

func TestNextLeavesItSet(t *testing.T) {
	q := timers.New(one(2, "a", 0, 1), one(1, "b", 0, 1))
	for range 3 {
		if x, ok := q.Next(); x != one(1, "b", 0, 1) || !ok || q.Len() != 2 || !q.Has(x) {
			t.Errorf("Next is %v %t, Len is %d", x, ok, q.Len())
		}
	}
	q.Due(2)
	if x, ok := q.Next(); x != (api.Timer{}) || ok {
		t.Errorf("Next of none is %v %t", x, ok)
	}
}

func TestDue(t *testing.T) {
	list := []api.Timer{one(least, "a", 0, 1), one(least, "", 5, 4), one(least+1, "a", 0, 1), one(-1, "b", 0, 1), one(0, "b", 0, 1), one(0, "a", 0, 1),
		one(1, "", greatest, least), one(1, "", least, greatest), one(greatest-1, "c", 0, 1), one(greatest, "c", 0, 1), one(greatest, "b", 0, 1)}
	times := []int64{least, least + 1, least + 2, -2, -1, 0, 1, 2, greatest - 2, greatest - 1, greatest}
	for _, upto := range times {
		for _, then := range times {
			w := newTwin(list...)
			w.due(t, upto)
			w.same(t, list...)
			w.due(t, upto)
			w.due(t, then)
			w.same(t, list...)
		}
	}
	q := timers.New(list...)
	if n := len(q.Due(least)); n != 2 {
		t.Errorf("%d are due at the least time", n)
	}
	if n := len(q.Due(greatest)); n != 9 || q.Len() != 0 {
		t.Errorf("%d are due at the greatest time, %d are left", n, q.Len())
	}
}

func TestDueIsNewMemory(t *testing.T) {
	w := newTwin(one(1, "a", 0, 1), one(2, "a", 0, 1), one(3, "a", 0, 1), one(4, "a", 0, 1), one(5, "a", 0, 1))
	l := w.q.Due(3)
	w.want.due(3)
	clear(l[:cap(l)])
	w.same(t, api.Timer{})
	l = w.q.Due(4)
	w.want.due(4)
	w.set(t, one(7, "b", 0, 1))
	if !slices.Equal(l, []api.Timer{one(4, "a", 0, 1)}) {
		t.Errorf("an answer is changed by a later call: %v", l)
	}
}

// bytesOf is where a text's bytes stand.
func bytesOf(s string) *byte { return unsafe.StringData(s) }

func TestKeysAreNewMemory(t *testing.T) {
	x := one(1, strings.Repeat("key", 50), 0, 1)
	q := timers.New(x)
	c := q.Copy()
	seen := map[*byte]int{bytesOf(x.Key): 1}
	tell := func(name string, y api.Timer) {
		seen[bytesOf(y.Key)]++
		if y != x || seen[bytesOf(y.Key)] != 1 {
			t.Errorf("the key that %s tells is another one, or stands in memory that is known", name)
		}
	}
	for range 2 {
		next, _ := q.Next()
		tell("Next", next)
		for y := range q.All() {
			tell("All", y)
		}
	}
	tell("Due", q.Due(1)[0])
	tell("Due of the copy", c.Due(1)[0])
}

func TestNothing(t *testing.T) {
	x := one(1, "a", 0, 1)
	for name, q := range map[string]*timers.Timers{"nil": nil, "zero": new(timers.Timers)} {
		for range 2 {
			if ok, e := q.Set(x); ok || e != api.ErrNil {
				t.Errorf("%s: Set is %t %v", name, ok, e)
			}
			if ok, e := q.Move(x, one(2, "a", 0, 1)); ok || e != api.ErrNil {
				t.Errorf("%s: Move is %t %v", name, ok, e)
			}
			if ok, e := q.Move(x, x); ok || e != api.ErrNil {
				t.Errorf("%s: Move to itself is %t %v", name, ok, e)
			}
			if q.Drop(x) || q.Has(x) || q.Drop(api.Timer{}) || q.Has(api.Timer{}) {
				t.Errorf("%s: Drop or Has is true", name)
			}
			if n := q.Len(); n != 0 {
				t.Errorf("%s: Len is %d", name, n)
			}
			if y, ok := q.Next(); y != (api.Timer{}) || ok {
				t.Errorf("%s: Next is %v %t", name, y, ok)
			}
			for _, upto := range []int64{least, 0, 1, greatest} {
				if l := q.Due(upto); len(l) != 0 {
					t.Errorf("%s: Due(%d) is %v", name, upto, l)
				}
			}
			if w := q.All(); w == nil || len(slices.Collect(w)) != 0 {
				t.Errorf("%s: All tells something, or is not there", name)
			}
			if c := q.Copy(); c != nil {
				t.Errorf("%s: Copy is %v", name, c)
			}
		}
	}
}
