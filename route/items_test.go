package route_test

import (
	"slices"
	"strings"
	"testing"

	"keepsake/api"
)

// P15.2: events, at the bounds of times, values and keys: one message each, to the worker of the key's group.
func TestEvents(t *testing.T) {
	// Of so many workers the ones who get the groups 0 to 3.
	owners := [][4]int{1: {0, 0, 0, 0}, 2: {0, 0, 1, 1}, 3: {0, 1, 2, 2}, 4: {0, 1, 2, 3}}
	for _, c := range kinds() {
		for workers := 1; workers <= 4; workers++ {
			w := newTwin(t, c, workers)
			for group, key := range []string{"a", "b", "c", "d"} {
				owner, seq := owners[workers][group], int64(4*group)
				w.wants(t, items(event(key, minTime, least), event(key, maxTime, greatest), event(key, 0, 0), event(key, -7, -1)),
					fell(owner, seq, key, minTime, least), fell(owner, seq+1, key, maxTime, greatest), fell(owner, seq+2, key, 0, 0), fell(owner, seq+3, key, -7, -1))
			}
			w.stands(t, 16, minTime, minTime, minTime)
		}
	}
	w := newTwin(t, jobOf(300, 1), 300)
	for _, key := range []string{"", "\x00", "\xff\xfe", "a ", "ab", "ä", strings.Repeat("x", 255), strings.Repeat("x", 256), strings.Repeat("\x00", 256)} {
		if l := w.one(t, event(key, 3, 1)); len(l) != 1 || l[0].Msg.Key != key {
			t.Errorf("the event of %q is sent as %v", key, l)
		}
	}
	w.same(t)
}

// An event that comes too late for its windows goes to its worker all the same, and turns no mark.
func TestEventsBehindTheWatermark(t *testing.T) {
	for _, c := range kinds() {
		w := fromTwin(t, c, 2, []int64{1000, 1000}, 0)
		w.wants(t, items(event("a", 3, 1), event("d", 5000, 1)), fell(0, 0, "a", 3, 1), fell(1, 1, "d", 5000, 1))
		w.stands(t, 2, 1000, 1000, 1000)
	}
}

// P15.2: a mark that raises the watermark, and one that does not: of one source, and of several.
func TestMarks(t *testing.T) {
	w := newTwin(t, jobOf(4, 1), 3)
	w.wants(t, items(mark(0, minTime)))
	w.wants(t, items(mark(0, minTime+1)), rose(0, 1, minTime+1), rose(1, 1, minTime+1), rose(2, 1, minTime+1))
	w.wants(t, items(mark(0, -1), mark(0, -1), mark(0, -2), mark(0, minTime), mark(0, 0)),
		rose(0, 2, -1), rose(1, 2, -1), rose(2, 2, -1), rose(0, 6, 0), rose(1, 6, 0), rose(2, 6, 0))
	w.wants(t, items(mark(0, maxTime), mark(0, maxTime), mark(0, 5)), rose(0, 7, maxTime), rose(1, 7, maxTime), rose(2, 7, maxTime))
	w.stands(t, 10, maxTime, maxTime)

	w = newTwin(t, jobOf(4, 3), 2)
	w.wants(t, items(mark(0, 13), mark(1, 100)))
	w.stands(t, 2, minTime, 13, 100, minTime)
	w.wants(t, items(mark(2, 12)), rose(0, 2, 12), rose(1, 2, 12))
	w.wants(t, items(mark(2, 5), mark(2, minTime), mark(2, 12), mark(0, 12), mark(1, 99), mark(0, 20)))
	w.stands(t, 9, 12, 20, 100, 12)
	// The new watermark is the least of the marks, not the mark that raised it.
	w.wants(t, items(mark(2, 40)), rose(0, 9, 20), rose(1, 9, 20))
	w.wants(t, items(mark(0, 1000)), rose(0, 10, 40), rose(1, 10, 40))
	w.stands(t, 11, 40, 1000, 100, 40)
}

// All sources hold the watermark back, each of 64 of them.
func TestMarksOfManySources(t *testing.T) {
	for last := range 64 {
		w := newTwin(t, jobOf(4, 64), 2)
		for source := range 64 {
			if source != last {
				w.wants(t, items(mark(source, int64(100+source))))
			}
		}
		w.wants(t, items(mark(last, 7)), rose(0, 63, 7), rose(1, 63, 7))
		others := int64(100)
		if last == 0 {
			others = 101
		}
		w.wants(t, items(mark(last, 1000)), rose(0, 64, others), rose(1, 64, others))
	}
}

// P15.2: a save goes to each worker, rising, and turns nothing but the number.
func TestSaves(t *testing.T) {
	for _, workers := range []int{1, 2, 3, 4} {
		w := newTwin(t, job(), workers)
		var want []api.Sent
		for seq := range int64(3) {
			for worker := range workers {
				want = append(want, saves(worker, seq))
			}
		}
		w.wants(t, items(save(), save(), save()), want...)
		w.stands(t, 3, minTime, minTime, minTime)
	}
}

// What goes to all goes to each worker once, rising, however many there are.
func TestManyWorkers(t *testing.T) {
	w := newTwin(t, jobOf(32768, 1), 32768)
	for seq, x := range items(save(), mark(0, 7), event("a", 3, 1), mark(0, 8)) {
		l := w.one(t, x)
		if x.Kind != api.ItemEvent && len(l) != 32768 {
			t.Errorf("%v is sent to %d workers", x, len(l))
		}
		for worker, s := range l {
			if x.Kind != api.ItemEvent && s.Worker != worker || s.Msg.Seq != int64(seq) {
				t.Fatalf("%v is sent as %v", x, s)
			}
		}
	}
	w.same(t)
}

// P15.2, P15.3: an item that may not be, alone and among others: what comes ahead of it is taken, it and what comes behind it is not.
func TestWrongItems(t *testing.T) {
	for _, c := range kinds() {
		w := newTwin(t, c, 3)
		w.do(t, event("a", 3, 5), mark(1, 5), mark(0, 1), save())
		good := items(event("a", 4, 1), event("d", 4, 1), mark(0, 200), mark(1, 300), save())
		for _, x := range wrongItems(c) {
			if l, e := w.r.Item(x); l != nil || e != api.ErrItem {
				t.Errorf("Item(%v) is %v, %d", x, l, e)
			}
			if l, n, e := w.r.Items(x); l != nil || n != 0 || e != api.ErrItem {
				t.Errorf("Items(%v) is %v, %d, %d", x, l, n, e)
			}
			w.same(t)
			for at := range len(good) + 1 {
				all := slices.Insert(slices.Clone(good), at, x)
				one := w.copied(t)
				one.do(t, all...)
				one.same(t)
				if seq := w.r.Seq() + int64(at); one.r.Seq() != seq {
					t.Errorf("behind Items(%v) Seq is %d, want %d", all, one.r.Seq(), seq)
				}
				one.do(t, good...)
				one.same(t)
			}
		}
		w.stands(t, 4, 1, 1, 5)
		// Of two that may not be the first one counts.
		l, n, e := w.r.Items(save(), mark(2, 1), save(), api.Item{})
		if len(l) != 3 || n != 1 || e != api.ErrItem {
			t.Errorf("Items are %v, %d, %d", l, n, e)
		}
		w.stands(t, 5, 1, 1, 5)
	}
}

// No items at all.
func TestNoItems(t *testing.T) {
	w := newTwin(t, job(), 2)
	for range 2 {
		for _, l := range [][]api.Item{nil, {}} {
			if sent, n, e := w.r.Items(l...); sent != nil || n != 0 || e != api.OK {
				t.Errorf("Items() is %v, %d, %d", sent, n, e)
			}
			w.same(t)
		}
		w.do(t, mark(0, 5), mark(1, 5), save())
	}
	// Items of which no message comes.
	if sent, n, e := w.r.Items(mark(0, 5), mark(1, 4), mark(0, 9)); sent != nil || n != 3 || e != api.OK {
		t.Errorf("Items are %v, %d, %d", sent, n, e)
	}
}
