package clock_test

import (
	"slices"
	"testing"

	"keepsake/api"
	"keepsake/clock"
)

// The chapter's table, row by row.
func TestExamples(t *testing.T) {
	c, e := clock.New(2)
	if e != api.OK || c.Mark() != api.MinTime {
		t.Fatalf("New(2) is %v, its mark %d", e, c.Mark())
	}
	for _, x := range []struct {
		source         int
		time, from, to int64
		err            api.Errno
	}{{0, 7, api.MinTime, api.MinTime, 0}, {1, 3, api.MinTime, 3, 0}, {1, 2, 3, 3, 0}, {2, 1, 0, 0, api.ErrItem}} {
		if a, b, e := c.Set(x.source, x.time); a != x.from || b != x.to || e != x.err {
			t.Errorf("Set(%d, %d) is %d, %d, %v", x.source, x.time, a, b, e)
		}
	}
	if l := c.Marks(); !slices.Equal(l, []int64{7, 3}) || c.Mark() != 3 || c.Outward() != 3 {
		t.Errorf("Marks are %v, Mark is %d, Outward %d", l, c.Mark(), c.Outward())
	}
	for _, h := range []held{{"b", 5}, {"a", 1}, {"d", 1}} {
		if e := c.Hold(h.name, h.time); e != api.OK {
			t.Errorf("Hold(%s, %d) is %v", h.name, h.time, e)
		}
	}
	first := func(name string, time, outward int64, n int) {
		t.Helper()
		if a, b, ok := c.First(); a != name || b != time || !ok || c.Outward() != outward || c.Len() != n {
			t.Errorf("First is %s, %d, %t, Outward %d, Len %d", a, b, ok, c.Outward(), c.Len())
		}
	}
	first("a", 1, 1, 3)
	if l := told(c); !slices.Equal(l, []held{{"a", 1}, {"b", 5}, {"d", 1}}) {
		t.Errorf("Holds tells %v", l)
	}
	if e := c.Hold("a", 9); e != api.OK {
		t.Errorf("Hold(a, 9) is %v", e)
	}
	first("d", 1, 1, 3)
	if !c.Free("d") || c.Free("d") {
		t.Error("Free(d) is not true and then false")
	}
	first("b", 5, 3, 2)
	if e := c.Hold("a", api.MaxTime+1); e != api.ErrArg {
		t.Errorf("Hold at no time is %v", e)
	}
	if l := told(c); !slices.Equal(l, []held{{"a", 9}, {"b", 5}}) {
		t.Errorf("Holds tells %v at last", l)
	}
}

func TestNew(t *testing.T) {
	for n := 1; n <= api.MaxSources; n++ {
		c, e := clock.New(n)
		if c == nil || e != api.OK {
			t.Fatalf("New(%d) is %v, %v", n, c, e)
		}
		w := twin{c, &model{marks: slices.Repeat([]int64{api.MinTime}, n)}}
		w.same(t)
		w.set(t, n, 1)
		w.set(t, n-1, 1)
		w.same(t)
	}
	for _, n := range []int{least, -1, 0, 65, 66, 1 << 32, greatest} {
		if c, e := clock.New(n); c != nil || e != api.ErrArg {
			t.Errorf("New(%d) is %v, %v", n, c, e)
		}
	}
}

func TestOf(t *testing.T) {
	var marks []int64
	for n := 1; n <= 64; n++ {
		marks = append(marks, int64(n*37%64)-32)
		twinOf(t, marks...).same(t)
	}
	for _, l := range [][]int64{nil, {}, append(marks, 1), make([]int64, 1000)} {
		if c, e := clock.Of(l...); c != nil || e != api.ErrArg {
			t.Errorf("Of %d marks is %v, %v", len(l), c, e)
		}
	}
	if c, e := clock.Of(); c != nil || e != api.ErrArg {
		t.Errorf("Of() is %v, %v", c, e)
	}
}

func TestOfTimes(t *testing.T) {
	for n := range 64 {
		marks := make([]int64, n+1)
		for place := range marks {
			for _, x := range []int64{api.MinTime, api.MaxTime} {
				marks[place] = x
				twinOf(t, marks...).same(t)
			}
			for _, x := range noTimes {
				marks[place] = x
				if c, e := clock.Of(marks...); c != nil || e != api.ErrArg {
					t.Errorf("Of with %d at the place %d of %d is %v, %v", x, place, n+1, c, e)
				}
			}
			marks[place] = 0
		}
	}
}

func TestNewOnesAreApart(t *testing.T) {
	a, b := twinOf(t, 1, 2), twinOf(t, 1, 2)
	a.set(t, 0, 9)
	a.hold(t, "a", -1)
	a.same(t)
	b.same(t)
}

func TestSet(t *testing.T) {
	times := []int64{api.MinTime, api.MinTime + 1, -1, 0, 1, api.MaxTime - 1, api.MaxTime}
	for _, a := range times {
		for _, b := range times {
			for _, x := range times {
				for source := range 2 {
					w := twinOf(t, a, b)
					w.set(t, source, x)
					w.same(t)
					w.set(t, source, x)
					w.set(t, source, a)
					w.same(t)
				}
			}
		}
	}
}

func TestSetTellsBothMarks(t *testing.T) {
	c, _ := clock.Of(5, 5, 8)
	for _, x := range []struct {
		source         int
		time, from, to int64
	}{{0, 6, 5, 5}, {1, 9, 5, 6}, {0, 10, 6, 8}, {2, 7, 8, 8}, {2, 8, 8, 8}, {2, 100, 8, 9}, {1, 50, 9, 10}, {0, -1, 10, 10}} {
		if a, b, e := c.Set(x.source, x.time); a != x.from || b != x.to || e != api.OK {
			t.Errorf("Set(%d, %d) is %d, %d, %v", x.source, x.time, a, b, e)
		}
	}
}

// What holds the clock does not hold its mark.
func TestHoldsLeaveTheMark(t *testing.T) {
	w := twinOf(t, 5)
	w.hold(t, "a", -7)
	if from, to, e := w.c.Set(0, 9); from != 5 || to != 9 || e != api.OK || w.c.Mark() != 9 || w.c.Outward() != -7 {
		t.Errorf("Set is %d, %d, %v, Mark %d, Outward %d", from, to, e, w.c.Mark(), w.c.Outward())
	}
}

func TestSetRefuses(t *testing.T) {
	for _, n := range []int{1, 2, 63, 64} {
		w := twinOf(t, slices.Repeat([]int64{-4}, n)...)
		w.hold(t, "a", -9)
		for _, source := range []int{least, -1 << 32, -1, n, n + 1, 1 << 32, greatest} {
			for _, x := range append([]int64{0, api.MinTime, api.MaxTime}, noTimes...) {
				if a, b, e := w.c.Set(source, x); a != 0 || b != 0 || e != api.ErrItem {
					t.Errorf("Set(%d, %d) of %d sources is %d, %d, %v", source, x, n, a, b, e)
				}
			}
		}
		for _, source := range []int{0, n - 1} {
			for _, x := range noTimes {
				if a, b, e := w.c.Set(source, x); a != 0 || b != 0 || e != api.ErrItem {
					t.Errorf("Set(%d, %d) is %d, %d, %v", source, x, a, b, e)
				}
			}
		}
		w.same(t)
	}
}

func TestHold(t *testing.T) {
	times := []int64{api.MinTime, api.MinTime + 1, -1, 0, 1, api.MaxTime - 1, api.MaxTime}
	for _, mark := range times {
		for _, was := range times {
			for _, then := range times {
				w := twinOf(t, mark)
				w.hold(t, "b", was)
				w.same(t)
				w.hold(t, "a", 0)
				w.hold(t, "b", then)
				w.same(t)
				w.free(t, "b")
				w.free(t, "b")
				w.same(t)
			}
		}
	}
}

func TestHoldAnew(t *testing.T) {
	for _, then := range []int64{-3, 4, 5, 6, 20} {
		w := twinOf(t, 10)
		for i, name := range []string{"a", "b", "c", "d", "e"} {
			w.hold(t, name, int64(2*i)+1)
		}
		w.hold(t, "c", then)
		w.same(t)
		if n := w.c.Len(); n != 5 {
			t.Errorf("behind Hold(c, %d) there are %d", then, n)
		}
		w.free(t, "c")
		w.free(t, "c")
		w.same(t)
	}
}

func TestHoldRefuses(t *testing.T) {
	w := twinOf(t, 3)
	w.hold(t, "a", 1)
	for _, name := range []string{"", "a", "b"} {
		for _, x := range noTimes {
			if e := w.c.Hold(name, x); e != api.ErrArg {
				t.Errorf("Hold(%q, %d) is %v", name, x, e)
			}
			w.same(t)
		}
	}
}

func TestFree(t *testing.T) {
	w := twinOf(t, 3)
	w.free(t, "a")
	w.free(t, "")
	for range 3 {
		w.hold(t, "a", 1)
		w.hold(t, "b", 0)
		w.free(t, "aa")
		w.free(t, "")
		w.same(t)
		w.free(t, "a")
		w.same(t)
		w.free(t, "a")
		w.same(t)
	}
}

// The empty name is one as any other is.
func TestEmptyName(t *testing.T) {
	w := twinOf(t, 3)
	w.hold(t, "", 5)
	w.hold(t, "a", 5)
	w.same(t)
	if name, time, ok := w.c.First(); name != "" || time != 5 || !ok {
		t.Errorf("First is %q, %d, %t", name, time, ok)
	}
	w.hold(t, "", 7)
	w.same(t)
	w.free(t, "")
	w.same(t)
	w.free(t, "")
	w.hold(t, "", 0)
	w.same(t)
}

func TestOutward(t *testing.T) {
	for _, x := range []struct {
		mark    int64
		holds   []int64
		outward int64
	}{
		{5, nil, 5},
		{5, []int64{6}, 5},
		{5, []int64{5}, 5},
		{5, []int64{4}, 4},
		{5, []int64{9, 4, 3, 8}, 3},
		{5, []int64{9, 6, 7, 8}, 5},
		{0, []int64{1}, 0},
		{1, []int64{0}, 0},
		{-1, []int64{0}, -1},
		{api.MinTime, []int64{api.MaxTime}, api.MinTime},
		{api.MaxTime, []int64{api.MaxTime}, api.MaxTime},
		{api.MaxTime, []int64{0, api.MinTime}, api.MinTime},
	} {
		w := twinOf(t, x.mark, api.MaxTime)
		for i, time := range x.holds {
			w.hold(t, string(rune('a'+i)), time)
		}
		if y := w.c.Outward(); y != x.outward {
			t.Errorf("Outward of %d and %v is %d", x.mark, x.holds, y)
		}
		w.same(t)
	}
}

// Of a clock that is not there, nothing is told, and nothing is done.
func TestNothing(t *testing.T) {
	refused, _ := clock.New(0)
	none, _ := clock.Of(1, api.MaxTime+1)
	for name, c := range map[string]*clock.Clock{"nil": nil, "zero": new(clock.Clock), "refused by New": refused, "refused by Of": none} {
		for range 2 {
			for _, source := range []int{-1, 0, 1} {
				for _, x := range []int64{0, api.MaxTime + 1} {
					if a, b, e := c.Set(source, x); a != 0 || b != 0 || e != api.ErrNil {
						t.Errorf("%s: Set(%d, %d) is %d, %d, %v", name, source, x, a, b, e)
					}
					if e := c.Hold("a", x); e != api.ErrNil {
						t.Errorf("%s: Hold at %d is %v", name, x, e)
					}
				}
			}
			if c.Mark() != 0 || c.Outward() != 0 || c.Len() != 0 {
				t.Errorf("%s: Mark is %d, Outward %d, Len %d", name, c.Mark(), c.Outward(), c.Len())
			}
			if l := c.Marks(); len(l) != 0 {
				t.Errorf("%s: Marks are %v", name, l)
			}
			if a, b, ok := c.First(); a != "" || b != 0 || ok || c.Free("a") || c.Free("") {
				t.Errorf("%s: First is %q, %d, %t, or Free is true", name, a, b, ok)
			}
			if holds := c.Holds(); holds == nil || len(told(c)) != 0 {
				t.Errorf("%s: Holds tells something, or is not there", name)
			}
			if d := c.Copy(); d != nil {
				t.Errorf("%s: Copy is %v", name, d)
			}
		}
	}
}
