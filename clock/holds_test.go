package clock_test

import (
	"maps"
	"slices"
	"strings"
	"testing"

	"keepsake/api"
	"keepsake/clock"
)

// manyNames are names that rise, among them such as others begin with, and bytes that are no text.
func manyNames() []string {
	return []string{"", "\x00", "\x00\x00", "A", "B", "a", "a\x00", "aa", "ab", "b", strings.Repeat("b", 300), "z", "ä", "日", "\xfe", "\xff", "\xff\x00", strings.Repeat("\xff", 300)}
}

// full is a clock at the mark 0 with all these names, whose times fall as the names rise.
func full(t *testing.T) twin {
	t.Helper()
	w := twinOf(t, 0)
	names := manyNames()
	for i := range names {
		w.hold(t, names[i*7%len(names)], 100-int64(i*7%len(names)))
	}
	return w
}

func TestHoldsRise(t *testing.T) {
	w := full(t)
	w.same(t)
	var l []string
	for name := range w.c.Holds() {
		l = append(l, name)
	}
	if !slices.Equal(l, manyNames()) {
		t.Errorf("Holds tells %q", l)
	}
}

func TestFirstOfSeveral(t *testing.T) {
	orders([]string{"", "a", "a\x00", "aa", "b", "\xff"}, func(l []string) {
		c, _ := clock.New(1)
		for _, name := range l {
			c.Hold(name, 7)
		}
		c.Hold("0", 8)
		for _, want := range []string{"", "a", "a\x00", "aa", "b", "\xff"} {
			if name, time, ok := c.First(); name != want || time != 7 || !ok {
				t.Fatalf("held as %q: First is %q, %d, %t, want %q", l, name, time, ok, want)
			}
			c.Free(want)
		}
		if name, time, ok := c.First(); name != "0" || time != 8 || !ok {
			t.Fatalf("held as %q: First is %q, %d, %t at last", l, name, time, ok)
		}
	})
}

func TestFirstLeavesItHeld(t *testing.T) {
	w := twinOf(t, 3)
	if name, time, ok := w.c.First(); name != "" || time != 0 || ok {
		t.Errorf("First of none is %q, %d, %t", name, time, ok)
	}
	w.hold(t, "a", 1)
	for range 3 {
		if name, time, ok := w.c.First(); name != "a" || time != 1 || !ok || w.c.Len() != 1 {
			t.Errorf("First is %q, %d, %t", name, time, ok)
		}
	}
	w.same(t)
	w.free(t, "a")
	if name, time, ok := w.c.First(); name != "" || time != 0 || ok {
		t.Errorf("First behind Free is %q, %d, %t", name, time, ok)
	}
}

func TestHoldsLeftEarly(t *testing.T) {
	w := full(t)
	all := told(w.c)
	for n := 1; n <= len(all); n++ {
		var l []held
		for name, time := range w.c.Holds() {
			if l = append(l, held{name, time}); len(l) == n {
				break
			}
		}
		if !slices.Equal(l, all[:n]) {
			t.Errorf("left behind %d: %v", n, l)
		}
	}
	w.same(t)
}

// Behind a yield that answers false none is told.
func TestHoldsStopsWhereItIsTold(t *testing.T) {
	w := full(t)
	calls := 0
	w.c.Holds()(func(string, int64) bool { calls++; return false })
	if calls != 1 {
		t.Errorf("it goes on behind a false: %d calls", calls)
	}
}

// A loop begins where it is ranged over, not where Holds was called.
func TestHoldsAgainAndAnew(t *testing.T) {
	w := twinOf(t, 0)
	holds := w.c.Holds()
	again := func() {
		t.Helper()
		for range 2 {
			var l []held
			for name, time := range holds {
				l = append(l, held{name, time})
			}
			if want := w.want.rising(); !slices.Equal(l, want) {
				t.Fatalf("it tells %v, want %v", l, want)
			}
		}
	}
	again()
	for i, name := range slices.Backward(manyNames()) {
		w.hold(t, name, int64(i))
		again()
	}
	for range holds {
		break
	}
	w.hold(t, "a", -5)
	again()
	w.free(t, "a")
	again()
	w.set(t, 0, 50)
	again()
}

// Whatever is done to the clock in a loop over its holds, those are told that were there when it began, at the times of then.
func TestHoldsWhileTheyAreChanged(t *testing.T) {
	names := manyNames()
	for title, do := range map[string]func(c *clock.Clock, name string, i int){
		"free it":      func(c *clock.Clock, name string, i int) { c.Free(name) },
		"free another": func(c *clock.Clock, name string, i int) { c.Free(names[len(names)-1-i]) },
		"free next":    func(c *clock.Clock, name string, i int) { c.Free(names[(i+1)%len(names)]) },
		"free all": func(c *clock.Clock, name string, i int) {
			for _, x := range names {
				c.Free(x)
			}
		},
		"hold it anew": func(c *clock.Clock, name string, i int) { c.Hold(name, -9) },
		"hold all anew": func(c *clock.Clock, name string, i int) {
			for _, x := range names {
				c.Hold(x, int64(i)-50)
			}
		},
		"hold another ahead":  func(c *clock.Clock, name string, i int) { c.Hold("\x00"+name, 1) },
		"hold another next":   func(c *clock.Clock, name string, i int) { c.Hold(name+"\x00\x01", 1) },
		"hold another behind": func(c *clock.Clock, name string, i int) { c.Hold(strings.Repeat("\xff", 301+i), 1) },
		"free and hold":       func(c *clock.Clock, name string, i int) { c.Free(name); c.Hold(name, 2) },
		"set the mark":        func(c *clock.Clock, name string, i int) { c.Set(0, int64(i)) },
		"empty a copy": func(c *clock.Clock, name string, i int) {
			d := c.Copy()
			for x := range d.Holds() {
				d.Free(x)
			}
		},
	} {
		w := full(t)
		want := w.want.rising()
		var l []held
		for name, time := range w.c.Holds() {
			do(w.c, name, len(l))
			l = append(l, held{name, time})
		}
		if !slices.Equal(l, want) {
			t.Errorf("%s: %v", title, l)
		}
	}
}

// What is done in a loop is done: behind it the clock is what it would be without the loop.
func TestChangedInALoop(t *testing.T) {
	w := full(t)
	i := 0
	for name := range w.c.Holds() {
		switch i % 3 {
		case 0:
			w.free(t, name)
		case 1:
			w.hold(t, name, int64(i)-5)
		default:
			w.hold(t, name+"!", int64(-i))
		}
		w.same(t)
		i++
	}
	w.same(t)
}

// Two loops, one within the other: each of them has its own beginning.
func TestHoldsWithinHolds(t *testing.T) {
	w := full(t)
	all := w.want.rising()
	holds := w.c.Holds()
	place := 0
	for name := range holds {
		w.free(t, name)
		place++
		if l := maps.Collect(holds); len(l) != len(all)-place {
			t.Errorf("within, behind Free(%q): %v", name, l)
		}
		w.same(t)
	}
	if place != len(all) || w.c.Len() != 0 {
		t.Errorf("the outer one tells %d, %d are left", place, w.c.Len())
	}
}

func TestHoldsAtEveryTime(t *testing.T) {
	w := twinOf(t, 0)
	for i, x := range []int64{api.MaxTime, api.MinTime, 0, api.MaxTime - 1, api.MinTime + 1, -1, 1} {
		w.hold(t, manyNames()[i], x)
		w.same(t)
	}
	for range 7 {
		name, _, _ := w.c.First()
		w.free(t, name)
		w.same(t)
	}
}
