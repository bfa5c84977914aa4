package engine_test

import (
	"testing"

	"keepsake/api"
)

// P17.5: State is told only where nobody has anything to do, whoever it is.
func TestStateWhileSomethingIsToDo(t *testing.T) {
	for n := range 4 {
		w := newTwin(t, example(), 4)
		w.feed(t, event("a", 3, 1), event("b", 3, 1), event("c", 3, 1), event("d", 3, 1), save())
		for other := range 4 {
			if other != n {
				w.picks(t, other, other)
			}
		}
		for range 2 {
			if s, e := w.e.State(); !sameState(s, api.State{}) || e != api.ErrBusy {
				t.Errorf("State is %+v, %d", s, e)
			}
			w.same(t)
			w.picks(t, n)
		}
		want := state(example(), []int64{minTime}, key("a", 0, one(3, 13, 3)), key("b", 0, one(3, 13, 3)), key("c", 0, one(3, 13, 3)), key("d", 0, one(3, 13, 3)))
		w.stands(t, want)
		w.feed(t, event(string(rune('a'+n)), 3, 1))
		if s, e := w.e.State(); !sameState(s, api.State{}) || e != api.ErrBusy {
			t.Errorf("State is %+v, %d", s, e)
		}
	}
}

// P17.5: the keys rise, whoever has them; the marks are those of all sources.
func TestStateOfManyKeys(t *testing.T) {
	c := sources(3)
	c.Groups = 7
	names := []string{"", "\x00", "A", "a", "aa", "ab", "b", "c", "d", "e", "f", "g", "h", "\xc3\xa4", "\xff"}
	for workers := 1; workers <= 7; workers++ {
		w := newTwin(t, c, workers)
		want := state(c, []int64{4, 9, minTime})
		for i := range names {
			w.feed(t, event(names[len(names)-1-i], 3, 1))
			want.Keys = append(want.Keys, key(names[i], 0, one(3, 13, 3)))
		}
		w.feed(t, markOf(1, 9), markOf(0, 4), markOf(1, 8))
		w.drain(t)
		w.stands(t, want)
	}
}

// P17.6: a save ahead of, in the midst of and behind what the workers have done of it.
func TestSaves(t *testing.T) {
	w := newTwin(t, sources(2), 3)
	w.notSaved(t, 0, map[int]api.Errno{least: 2, -1: 2, 0: 2, 1: 2, greatest: 2})
	w.feed(t, event("a", 3, 1), event("d", 3, 2), markOf(0, 20), save(), event("a", 4, 4), markOf(1, 13), event("d", 4, 8))
	outside := map[int]api.Errno{least: 2, -1: 2, 0: api.ErrBusy, 1: 2, 2: 2, greatest: 2}
	w.notSaved(t, 0, outside)
	w.picks(t, 0, 0, 0) // a, the mark, the save
	w.notSaved(t, 0, outside)
	w.picks(t, 0, 0)    // worker 0 goes on, and tells a's pane
	w.picks(t, 2, 2)    // worker 2 stands ahead of the save
	w.picks(t, 1, 1, 1) // worker 1 has nobody's events
	w.notSaved(t, 0, outside)
	w.picks(t, 2)
	want := state(sources(2), []int64{20, minTime}, key("a", 0, one(3, 13, 3)), key("d", 0, win(3, 13, 1, 2, 2, 2, 1, 0, 3)))
	if w.e.Saves() != 1 {
		t.Errorf("Saves are %d", w.e.Saves())
	}
	w.saved(t, 0, want)
	w.notSaved(t, 1, map[int]api.Errno{least: 2, -1: 2, 1: 2, 2: 2, greatest: 2})
	w.drain(t)
	w.saved(t, 0, want)
	w.told(t, by(0, 5, pane("a", 3, 13, api.OnTime, 0, 2, 5, 1, 4)), by(2, 5, pane("d", 3, 13, api.OnTime, 0, 1, 2, 2, 2)), by(2, 6, pane("d", 3, 13, api.Late, 1, 2, 10, 2, 8)))
}

// P17.6: two saves behind one another are two; each worker may stand between them.
func TestSavesBehindOneAnother(t *testing.T) {
	w := newTwin(t, example(), 2)
	w.feed(t, save(), save(), event("a", 3, 1), save())
	w.picks(t, 0)
	w.notSaved(t, 0, map[int]api.Errno{0: 270, 1: 270, 2: 270, 3: 2})
	w.picks(t, 1, 1)
	w.notSaved(t, 1, map[int]api.Errno{1: 270, 2: 270, 3: 2})
	w.saved(t, 0, begin(example()))
	w.picks(t, 0)
	w.notSaved(t, 2, map[int]api.Errno{2: 270, 3: 2})
	w.saved(t, 1, begin(example()))
	w.picks(t, 1)
	w.notSaved(t, 2, map[int]api.Errno{2: 270, 3: 2})
	w.picks(t, 0, 0)
	w.notSaved(t, 3, map[int]api.Errno{3: 2, -1: 2})
	w.saved(t, 2, state(example(), []int64{minTime}, key("a", 0, one(3, 13, 3))))
	w.saved(t, 0, begin(example()))
	// One that is fed later is a further one.
	w.feed(t, mark(18), save())
	w.notSaved(t, 3, map[int]api.Errno{3: 270, 4: 2})
	w.drain(t)
	w.saved(t, 3, state(example(), []int64{18}))
	w.saved(t, 2, state(example(), []int64{minTime}, key("a", 0, one(3, 13, 3))))
}

// P17.6: the marks of a save are those that stand ahead of it, of each source; none that was fed behind it, and none of the workers'.
func TestMarksOfASave(t *testing.T) {
	c := sources(3)
	w := newTwin(t, c, 2)
	w.feed(t, markOf(0, 5), save(), markOf(1, 9), markOf(0, 3), save(), markOf(2, 7), save(), markOf(0, 20))
	w.drain(t)
	for n, marks := range [][]int64{{5, minTime, minTime}, {5, 9, minTime}, {5, 9, 7}} {
		w.saved(t, n, state(c, marks))
	}
	w.stands(t, state(c, []int64{20, 9, 7}))
}

// A save keeps what stood there, whatever becomes of the keys: windows that are taken away, keys that come, that are gone, of which events are dropped.
func TestSavesStay(t *testing.T) {
	for _, c := range kinds() {
		for workers := 1; workers <= 4; workers++ {
			w := newTwin(t, with(c, 2, true), workers)
			w.feed(t, event("a", 3, 1), event("d", 3, 1), event("d", 4, 1), save())
			w.drain(t)
			want, e := w.e.Saved(0)
			if e != api.OK || len(want.Keys) != 2 {
				t.Errorf("Saved is %+v, %d", want, e)
			}
			for i := range int64(30) {
				w.feed(t, event("a", 3*i, 1), event("new", 2*i, 1), mark(4*i), event("d", i, 1), save())
				w.picks(t, int(i)%workers, 0)
				w.saved(t, 0, want)
			}
			w.drain(t)
			w.feed(t, mark(1000))
			w.drain(t)
			w.saved(t, 0, want)
		}
	}
}
