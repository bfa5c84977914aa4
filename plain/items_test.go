package plain_test

import (
	"testing"

	"keepsake/api"
)

// Events at the bounds of their windows, on time.
func TestEventsAtTheBounds(t *testing.T) {
	w := newTwin(t, example())
	w.wants(t, items(event("a", 2, 1), event("a", 3, 2), event("a", 12, 4), event("a", 13, 8)))
	w.keeps(t, key("a", 0, win(-7, 3, 1, 1, 1, 1, 1, 0, 2), win(3, 13, 2, 6, 2, 4, 2, 0, 3), win(13, 23, 1, 8, 8, 8, 1, 0, 13)))
	w.wants(t, items(mark(2)))
	w.stands(t, 2, 2)
	w.wants(t, items(mark(3)), pane("a", -7, 3, api.OnTime, 0, 1, 1, 1, 1))
	w.wants(t, items(mark(12)))
	w.stands(t, 12, 3)
	w.wants(t, items(mark(23)), pane("a", 3, 13, api.OnTime, 0, 2, 6, 2, 4), pane("a", 13, 23, api.OnTime, 0, 1, 8, 8, 8))
	w.stands(t, 23, 23)
}

// Events that come late, at the last moment, and too late.
func TestEventsThatAreLate(t *testing.T) {
	w := newTwin(t, example())
	w.wants(t, items(event("a", 3, 1), mark(12), event("a", 12, 2)))
	w.wants(t, items(mark(13)), pane("a", 3, 13, api.OnTime, 0, 2, 3, 1, 2))
	w.wants(t, items(event("a", 3, 4)), pane("a", 3, 13, api.Late, 1, 3, 7, 1, 4))
	w.wants(t, items(mark(17), event("a", 12, 8)), pane("a", 3, 13, api.Late, 2, 4, 15, 1, 8))
	// A window that is laid when it is due already tells no pane on time.
	w.wants(t, items(event("b", 5, 1)), pane("b", 3, 13, api.Late, 0, 1, 1, 1, 1))
	w.stands(t, 17, 17)
	w.wants(t, items(mark(18), event("a", 12, 16), event("c", 3, 1), event("a", 3, 32)))
	w.keeps(t, key("a", 2), key("c", 1))
	w.wants(t, items(event("a", 13, 64)))
	w.keeps(t, key("a", 2, win(13, 23, 1, 64, 64, 64, 1, 0, 18)), key("c", 1))
	w.wants(t, items(mark(23)), pane("a", 13, 23, api.OnTime, 0, 1, 64, 64, 64))
	w.wants(t, items(mark(28), mark(maxTime)))
	w.keeps(t, key("a", 2), key("c", 1))
}

// A window that is due and expired by one mark tells its pane, and is gone.
func TestMarkThatGoesFar(t *testing.T) {
	w := newTwin(t, example())
	w.wants(t, items(event("a", 3, 1), event("b", 30, 1), mark(18)), pane("a", 3, 13, api.OnTime, 0, 1, 1, 1, 1))
	w.keeps(t, key("b", 0, win(23, 33, 1, 1, 1, 1, 1, 0, 30)))

	late0 := example()
	late0.Late = 0
	w = newTwin(t, late0)
	w.wants(t, items(event("a", 3, 1), mark(12), event("a", 3, 1)))
	w.wants(t, items(mark(13)), pane("a", 3, 13, api.OnTime, 0, 2, 2, 1, 1))
	w.keeps(t)
	w.wants(t, items(event("a", 3, 1)))
	w.keeps(t, key("a", 1))
}

// Of an event that falls into several windows those that are expired are left out.
func TestSlidingEvents(t *testing.T) {
	w := newTwin(t, with(sliding(), 2, false))
	w.wants(t, items(event("a", 7, 1), event("a", 12, 2)), pane("a", 5, 15, api.Early, 0, 2, 3, 1, 2))
	w.wants(t, items(mark(10)), pane("a", 0, 10, api.OnTime, 0, 1, 1, 1, 1))
	w.wants(t, items(event("a", 9, 4)), pane("a", 0, 10, api.Late, 1, 2, 5, 1, 4))
	w.wants(t, items(mark(15)), pane("a", 5, 15, api.OnTime, 1, 3, 7, 1, 4))
	w.wants(t, items(event("a", 9, 8)), pane("a", 5, 15, api.Late, 2, 4, 15, 1, 8))
	w.keeps(t, key("a", 0, win(5, 15, 4, 15, 1, 8, 0, 3, 7), win(10, 20, 1, 2, 2, 2, 1, 0, 12)))
	w.wants(t, items(event("a", 4, 1)))
	w.keeps(t, key("a", 1, win(5, 15, 4, 15, 1, 8, 0, 3, 7), win(10, 20, 1, 2, 2, 2, 1, 0, 12)))
	w.stands(t, 15, 12)

	// Two windows of one event, both of which tell.
	w = newTwin(t, with(sliding(), 1, true))
	w.wants(t, items(event("a", 7, 1)), pane("a", 0, 10, api.Early, 0, 1, 1, 1, 1), pane("a", 5, 15, api.Early, 0, 1, 1, 1, 1))
	w.wants(t, items(mark(15)), pane("a", 0, 10, api.OnTime, 1, 0, 0, 0, 0), pane("a", 5, 15, api.OnTime, 1, 0, 0, 0, 0))
	w.keeps(t, key("a", 0, win(5, 15, 0, 0, 0, 0, 0, 2, 7)))
}

// Sessions that touch stay apart; one that is due grows, and is due anew; what is due holds nothing back.
func TestSessions(t *testing.T) {
	w := newTwin(t, session())
	w.wants(t, items(event("a", 0, 1), event("a", 10, 2)))
	w.keeps(t, key("a", 0, win(0, 10, 1, 1, 1, 1, 1, 0, 0), win(10, 20, 1, 2, 2, 2, 1, 0, 10)))
	w.wants(t, items(mark(5), event("b", 1, 1), event("a", 9, 4)))
	w.keeps(t, key("a", 0, win(0, 20, 3, 7, 1, 4, 3, 0, 0)), key("b", 0, win(1, 11, 1, 1, 1, 1, 1, 0, 5)))
	w.stands(t, 5, 0)
	w.wants(t, items(mark(20)), pane("b", 1, 11, api.OnTime, 0, 1, 1, 1, 1), pane("a", 0, 20, api.OnTime, 0, 3, 7, 1, 4))
	w.wants(t, items(event("a", 19, 8)))
	w.keeps(t, key("a", 0, win(0, 29, 4, 15, 1, 8, 1, 1, 20)), key("b", 0, win(1, 11, 1, 1, 1, 1, 0, 1, 5)))
	w.stands(t, 20, 20)
	w.wants(t, items(event("a", 5, 16), event("b", 2, 1)), pane("b", 1, 12, api.Late, 1, 2, 2, 1, 1))
	w.wants(t, items(mark(29)), pane("a", 0, 29, api.OnTime, 1, 5, 31, 1, 16))
	w.wants(t, items(mark(111), mark(112), mark(128)))
	w.keeps(t, key("a", 0, win(0, 29, 5, 31, 1, 16, 0, 2, 20)))
	w.wants(t, items(mark(129), event("a", 19, 1), event("a", 20, 1)), pane("a", 20, 30, api.Late, 0, 1, 1, 1, 1))
	w.keeps(t, key("a", 1, win(20, 30, 1, 1, 1, 1, 0, 1, 129)))
}

// Marks that do not rise, and marks of several sources: the least of them counts.
func TestMarks(t *testing.T) {
	c := example()
	c.Sources = 3
	w := newTwin(t, c)
	w.wants(t, items(event("a", 3, 1), event("a", 14, 1), markOf(0, 13), markOf(1, 100)))
	w.stands(t, minTime, minTime)
	w.wants(t, items(markOf(2, 12)))
	w.stands(t, 12, 3)
	w.wants(t, items(markOf(2, 5), markOf(2, minTime), markOf(2, 12), markOf(0, 12), markOf(1, 99)))
	w.stands(t, 12, 3)
	w.wants(t, items(markOf(2, 40)), pane("a", 3, 13, api.OnTime, 0, 1, 1, 1, 1))
	w.stands(t, 13, 13)
	w.wants(t, items(markOf(0, 13), markOf(0, 22), markOf(1, 22)))
	w.stands(t, 22, 14)
	w.wants(t, items(markOf(0, 1000)), pane("a", 13, 23, api.OnTime, 0, 1, 1, 1, 1))
	w.stands(t, 40, 40)
	if s := w.j.State(); s.Marks[0] != 1000 || s.Marks[1] != 100 || s.Marks[2] != 40 || w.j.Done() != 15 {
		t.Errorf("the marks are %v, Done is %d", s.Marks, w.j.Done())
	}
}

// The order of what one mark tells: by End, then by key, then by Start.
func TestOrderOfAMark(t *testing.T) {
	one := func(start, end int64) api.Win { return win(start, end, 1, 1, 1, 1, 1, 0, 0) }
	told := func(name string, start, end int64) api.Pane {
		return pane(name, start, end, api.OnTime, 0, 1, 1, 1, 1)
	}
	w := fromTwin(t, state(sliding(), []int64{0},
		key("", 0, one(0, 25)), key("B", 0, one(-9, 10)), key("a", 0, one(0, 20), one(5, 20), one(10, 15), one(12, 31)), key("ab", 0, one(1, 15), one(2, 20)), key("b", 0, one(0, 10), one(5, 15))))
	w.wants(t, items(mark(30)),
		told("B", -9, 10), told("b", 0, 10), told("a", 10, 15), told("ab", 1, 15), told("b", 5, 15), told("a", 0, 20), told("a", 5, 20), told("ab", 2, 20), told("", 0, 25))
	w.keeps(t, key("a", 0, one(12, 31)))

	// Keys come in the order of their bytes, whatever the order in which they came.
	w = newTwin(t, sliding())
	w.wants(t, items(event("b", 12, 1), event("\xff", 7, 1), event("a", 7, 1), event("", 7, 1), event("ab", 7, 1), event("B", 7, 1), mark(15)),
		told("", 0, 10), told("B", 0, 10), told("a", 0, 10), told("ab", 0, 10), told("\xff", 0, 10),
		told("", 5, 15), told("B", 5, 15), told("a", 5, 15), told("ab", 5, 15), told("b", 5, 15), told("\xff", 5, 15))
}

// Windows that end above MaxTime are never due; the first time of all, too, is one.
func TestTimesAtTheEnds(t *testing.T) {
	for _, c := range kinds() {
		w := newTwin(t, c)
		w.wants(t, items(event("a", maxTime, 1), event("b", minTime, 1), event("a", minTime, 1)))
		w.stands(t, minTime, minTime)
		w.do(t, mark(maxTime-1))
		w.same(t)
		w.wants(t, items(mark(maxTime)))
		k, _, _ := w.j.Key("a")
		for _, x := range k.Windows {
			if x.End <= maxTime || x.Panes != 0 {
				t.Errorf("of %+v %+v is left", c, x)
			}
		}
		w.stands(t, maxTime, maxTime)
		w.do(t, event("a", maxTime, 2), event("b", maxTime-100, 3), event("b", minTime, 3))
		w.same(t)
		if k, _, found := w.j.Key("b"); k.Dropped == 0 || !found {
			t.Errorf("of %+v the key b is %+v", c, k)
		}
	}

	// A window that just ends at MaxTime is due then.
	c := tumbling()
	c.Offset = maxTime % 10
	w := newTwin(t, c)
	w.wants(t, items(event("a", maxTime-1, 1), event("a", maxTime, 1), mark(maxTime)), pane("a", maxTime-10, maxTime, api.OnTime, 0, 1, 1, 1, 1))
	w.keeps(t, key("a", 0, win(maxTime-10, maxTime, 1, 1, 1, 1, 0, 1, maxTime-1), win(maxTime, maxTime+10, 1, 1, 1, 1, 1, 0, maxTime)))
}

func TestSumsGoRound(t *testing.T) {
	w := newTwin(t, with(example(), 3, false))
	w.wants(t, items(event("a", 3, greatest), event("a", 4, 1)))
	w.keeps(t, key("a", 0, win(3, 13, 2, least, 1, greatest, 2, 0, 3)))
	w.wants(t, items(event("a", 5, least)), pane("a", 3, 13, api.Early, 0, 3, 0, least, greatest))
}

// Counts go no further than MaxCount, each of them.
func TestCountsAtTheirBound(t *testing.T) {
	w := fromTwin(t, state(with(example(), 1<<31-1, false), []int64{13}, key("a", most, win(3, 13, most, 1, 1, 1, most, most, 13), win(13, 23, most-1, 1, 1, 1, 0, most-1, 13))))
	w.wants(t, items(event("a", 3, 1)), pane("a", 3, 13, api.Late, most, most, 2, 1, 1))
	w.wants(t, items(event("a", 13, 1), event("a", 13, 1), mark(23)), pane("a", 13, 23, api.OnTime, most-1, most, 3, 1, 1))
	w.wants(t, items(event("a", 13, 1)), pane("a", 13, 23, api.Late, most, most, 4, 1, 1))
	w.wants(t, items(event("a", 3, 1)))
	w.keeps(t, key("a", most, win(13, 23, most, 4, 1, 1, 0, most, 13)))

	w = fromTwin(t, state(session(), []int64{0}, key("a", most-1, win(0, 10, most, 1, 1, 1, most-5, 7, 0), win(12, 30, 9, 1, 1, 1, 9, most, 12))))
	w.wants(t, items(event("a", 5, 1)))
	w.keeps(t, key("a", most-1, win(0, 30, most, 3, 1, 1, most, most, 0)))
	w.wants(t, items(mark(300), event("a", 3, 1), event("a", 3, 1)), pane("a", 0, 30, api.OnTime, most, most, 3, 1, 1))
	w.keeps(t, key("a", most))
}

// P14.1: behind a state that is in order, but can't be, items do what the document says all the same.
func TestStatesThatCannotBe(t *testing.T) {
	c := example()
	c.Sources = 2
	// [3, 13) is expired; [13, 23) is due and has told nothing; [4, 40) is no window of the job; tallies count nothing, and are not nothing.
	s := state(c, []int64{30, 25}, key("a", 0, win(3, 13, 1, 1, 1, 1, 1, 0, 3), win(4, 40, 0, 7, 8, 9, 0, 0, -5), win(13, 23, 0, 5, 6, 7, 3, 0, least)))
	w := fromTwin(t, s)
	w.stands(t, 25, -5)
	w.wants(t, items(markOf(0, 60), markOf(0, 20), save(), event("a", 3, 1)))
	s.Keys[0].Dropped = 1
	w.keeps(t, s.Keys[0])
	w.wants(t, items(event("a", 13, 4)), pane("a", 13, 23, api.Late, 0, 1, 4, 4, 4))
	w.wants(t, items(markOf(1, 26)))
	w.keeps(t, key("a", 1, win(4, 40, 0, 7, 8, 9, 0, 0, -5), win(13, 23, 1, 4, 4, 4, 0, 1, least)))
	w.wants(t, items(markOf(1, 40)), pane("a", 4, 40, api.OnTime, 0, 0, 7, 8, 9))
	w.stands(t, 40, 40)

	// Holds that are no times.
	for _, hold := range []int64{least, minTime - 1, minTime, maxTime, maxTime + 1, greatest} {
		w := fromTwin(t, state(example(), []int64{5}, key("a", 0, win(3, 13, 1, 1, 1, 1, 1, 0, hold))))
		w.stands(t, 5, min(5, hold))
		w.wants(t, items(event("a", 3, 1)))
		w.stands(t, 5, min(5, hold))
		w.keeps(t, key("a", 0, win(3, 13, 2, 2, 1, 1, 2, 0, min(5, hold))))
		w.wants(t, items(mark(13)), pane("a", 3, 13, api.OnTime, 0, 2, 2, 1, 1))
		w.stands(t, 13, 13)
	}

	// An event that falls into a session that is expired is dropped; the session stays.
	w = fromTwin(t, state(session(), []int64{200}, key("a", 0, win(0, 10, 1, 1, 1, 1, 1, 0, 0), win(180, 190, 1, 1, 1, 1, 1, 0, 180))))
	w.wants(t, items(event("a", 0, 1), event("a", 95, 1)), pane("a", 95, 105, api.Late, 0, 1, 1, 1, 1))
	w.keeps(t, key("a", 1, win(0, 10, 1, 1, 1, 1, 1, 0, 0), win(95, 105, 1, 1, 1, 1, 0, 1, 200), win(180, 190, 1, 1, 1, 1, 1, 0, 180)))
}

// Keys that differ little are different keys.
func TestKeysApart(t *testing.T) {
	w := newTwin(t, example())
	w.wants(t, items(event("", 3, 1), event("\x00", 3, 2), event("a", 3, 4), event("A", 3, 8), event("a ", 3, 16), event("\xc3\xa4", 3, 32), event("\xe4", 3, 64)))
	one := func(v int64) api.Win { return win(3, 13, 1, v, v, v, 1, 0, 3) }
	w.keeps(t, key("", 0, one(1)), key("\x00", 0, one(2)), key("A", 0, one(8)), key("a", 0, one(4)), key("a ", 0, one(16)), key("\xc3\xa4", 0, one(32)), key("\xe4", 0, one(64)))
}
