package keyed_test

import (
	"math/rand"
	"testing"

	"keepsake/api"
)

// Each window that an event falls into is laid, or takes the value in, and tells what is to be told.
func TestEventOfOneWindow(t *testing.T) {
	a := key(0, one(0, 10, 7, 3))
	two := win(0, 10, 2, 5, -2, 7, 2, 0, 3)
	told := win(0, 10, 2, 5, -2, 7, 0, 1, 3)
	gone := win(0, 10, 0, 0, 0, 0, 0, 1, 3)
	for _, r := range []struct {
		late    int64
		early   int
		discard bool
		w       int64
		want    api.Win
		kind    api.PaneKind
	}{
		{0, 0, false, 3, two, 0}, {0, 0, true, 3, two, 0}, {5, 0, false, 9, two, 0}, {5, 0, true, 9, two, 0},
		{5, 3, false, 3, two, 0}, {5, 3, true, 3, two, 0}, {5, api.MaxEarly, true, 3, two, 0},
		{0, 2, false, 3, told, api.Early}, {0, 2, true, 3, gone, api.Early}, {5, 1, false, 9, told, api.Early}, {5, 1, true, 9, gone, api.Early},
		{5, 0, false, 10, told, api.Late}, {5, 0, true, 10, gone, api.Late}, {5, 0, false, 14, told, api.Late}, {5, 0, true, 14, gone, api.Late},
		{5, 2, false, 10, told, api.Late}, {5, 2, true, 14, gone, api.Late}, {5, 9, true, 12, gone, api.Late}, {api.MaxSpan, 0, false, 9 + api.MaxSpan, told, api.Late},
	} {
		want := answer{k: key(0, r.want)}
		if r.kind != 0 {
			want.panes = panes(pane(r.kind, 0, 10, 0, 2, 5, -2, 7))
		}
		wantEvent(t, tumbling(r.late, r.early, r.discard), a, r.w, 1, -2, want)
	}
	// Due at just its End with Late 0 it is expired too.
	for _, r := range []struct{ late, w int64 }{{0, 10}, {0, 11}, {5, 15}, {5, 16}, {5, api.MaxTime}, {api.MaxSpan, 10 + api.MaxSpan}} {
		wantEvent(t, tumbling(r.late, 1, true), a, r.w, 1, -2, answer{k: key(1, one(0, 10, 7, 3)), dropped: true})
		wantEvent(t, tumbling(r.late, 1, true), key(4), r.w, 1, -2, answer{k: key(5), dropped: true})
	}
	// A window that is laid tells at once, if Early is 1 or it is due.
	wantEvent(t, tumbling(5, 1, false), key(0), 0, 3, 7, answer{k: key(0, win(0, 10, 1, 7, 7, 7, 0, 1, 3)), panes: panes(pane(api.Early, 0, 10, 0, 1, 7, 7, 7))})
	wantEvent(t, tumbling(5, 1, true), key(0), 0, 3, 7, answer{k: key(0, win(0, 10, 0, 0, 0, 0, 0, 1, 3)), panes: panes(pane(api.Early, 0, 10, 0, 1, 7, 7, 7))})
	wantEvent(t, tumbling(5, 0, false), key(0), 12, 3, 7, answer{k: key(0, win(0, 10, 1, 7, 7, 7, 0, 1, 12)), panes: panes(pane(api.Late, 0, 10, 0, 1, 7, 7, 7))})
}

// Where a window is laid among others, those too that are none of the job's: by Start, then by End.
func TestEventLaysInItsPlace(t *testing.T) {
	c := tumbling(0, 0, false)
	x := one(10, 20, 7, 12)
	for _, r := range []struct{ ahead, behind []api.Win }{
		{nil, nil},
		{[]api.Win{one(0, 10, 1, 1)}, nil},
		{nil, []api.Win{one(20, 30, 1, 1)}},
		{[]api.Win{one(0, 10, 1, 1)}, []api.Win{one(20, 30, 1, 1)}},
		{[]api.Win{one(0, 99, 1, 1), one(9, 99, 1, 1)}, []api.Win{one(11, 12, 1, 1), one(11, 99, 1, 1)}},
		{[]api.Win{one(10, 11, 1, 1), one(10, 19, 1, 1)}, []api.Win{one(10, 21, 1, 1), one(10, 99, 1, 1)}},
		{[]api.Win{one(lowest, highest, 1, 1)}, []api.Win{one(highest-1, highest, 1, 1)}},
	} {
		others := append(append([]api.Win{}, r.ahead...), r.behind...)
		want := append(append(append([]api.Win{}, r.ahead...), x), r.behind...)
		wantEvent(t, c, key(2, others...), 0, 12, 7, answer{k: key(2, want...)})
		// And once it is there, it is found there.
		more := append([]api.Win{}, want...)
		more[len(r.ahead)] = win(10, 20, 2, 9, 2, 7, 2, 0, 11)
		wantEvent(t, c, key(2, want...), 0, 11, 2, answer{k: key(2, more...)})
	}
}

// The Hold is the greater one of time and watermark, or what it was, if that is less.
func TestEventHold(t *testing.T) {
	c := tumbling(100, 0, false)
	for _, r := range []struct{ w, at, hold int64 }{
		{0, 3, 3}, {3, 3, 3}, {4, 3, 4}, {9, 3, 9}, {api.MinTime, 3, 3}, {api.MinTime, 0, 0}, {-7, 0, 0},
	} {
		wantEvent(t, c, key(0), r.w, r.at, 1, answer{k: key(0, one(0, 10, 1, r.hold))})
		for _, was := range []int64{least, -1, 3, 4, 9, greatest} {
			wantEvent(t, c, key(0, one(0, 10, 1, was)), r.w, r.at, 1, answer{k: key(0, win(0, 10, 2, 2, 1, 1, 2, 0, min(was, r.hold)))})
		}
	}
}

// Sliding: some of the windows are expired, some due, some not, some there, some not.
func TestEventOfSeveralWindows(t *testing.T) {
	c := sliding(3, 2, false)
	c.Slide = 2
	// An event at 9 falls into [0, 10) [2, 12) [4, 14) [6, 16) [8, 18).
	k := key(1, one(2, 12, 7, 5), one(6, 16, 7, 6))
	wantEvent(t, c, k, 13, 9, -2, answer{
		// [0, 10) is expired at 13; [2, 12) is due; Early is reached by [6, 16) alone.
		k:     key(1, win(2, 12, 2, 5, -2, 7, 0, 1, 5), one(4, 14, -2, 13), win(6, 16, 2, 5, -2, 7, 0, 1, 6), one(8, 18, -2, 13)),
		panes: panes(pane(api.Late, 2, 12, 0, 2, 5, -2, 7), pane(api.Early, 6, 16, 0, 2, 5, -2, 7)),
	})
	c.Discard = true
	wantEvent(t, c, k, 13, 9, -2, answer{
		k:     key(1, win(2, 12, 0, 0, 0, 0, 0, 1, 5), one(4, 14, -2, 13), win(6, 16, 0, 0, 0, 0, 0, 1, 6), one(8, 18, -2, 13)),
		panes: panes(pane(api.Late, 2, 12, 0, 2, 5, -2, 7), pane(api.Early, 6, 16, 0, 2, 5, -2, 7)),
	})
	// One window is left; one watermark more, and none is: the event is dropped, and what is there stays, expired or not.
	old := key(most-1, one(0, 10, 7, 5), one(8, 18, 7, 8), one(20, 30, 7, 20))
	wantEvent(t, c, old, 20, 9, -2, answer{
		k:     key(most-1, one(0, 10, 7, 5), win(8, 18, 0, 0, 0, 0, 0, 1, 8), one(20, 30, 7, 20)),
		panes: panes(pane(api.Late, 8, 18, 0, 2, 5, -2, 7)),
	})
	dropped := old
	dropped.Dropped = most
	wantEvent(t, c, old, 21, 9, -2, answer{k: dropped, dropped: true})
	wantEvent(t, c, dropped, 21, 9, -2, answer{k: dropped, dropped: true})

	// As many as there may be at most, all of them told by rising Start.
	c = api.Config{Groups: 1, Sources: 1, Kind: api.Sliding, Size: 64, Slide: 1, Early: 1}
	var want answer
	want.k = key(0)
	for a := int64(37); a <= 100; a++ {
		want.k.Windows = append(want.k.Windows, win(a, a+64, 1, 5, 5, 5, 0, 1, 100))
		want.panes = append(want.panes, pane(api.Early, a, a+64, 0, 1, 5, 5, 5))
	}
	wantEvent(t, c, key(0), 0, 100, 5, want)
}

func TestEventOfSessions(t *testing.T) {
	c := session(0, 0, false)
	row := key(2, win(0, 5, 2, 7, 3, 4, 1, 1, 0), win(5, 8, 1, 9, 9, 9, 1, 0, 5), win(20, 25, 1, 1, 1, 1, 1, 2, 20))
	first, second, third := row.Windows[0], row.Windows[1], row.Windows[2]
	// It overlaps none: it touches two, it touches one, it lies ahead of all, behind all.
	wantEvent(t, c, row, -9, 8, 2, answer{k: key(2, first, second, one(8, 13, 2, 8), third)})
	wantEvent(t, c, row, -9, 15, 2, answer{k: key(2, first, second, one(15, 20, 2, 15), third)})
	wantEvent(t, c, row, -9, -5, 2, answer{k: key(2, one(-5, 0, 2, -5), first, second, third)})
	wantEvent(t, c, row, -9, 25, 2, answer{k: key(2, first, second, third, one(25, 30, 2, 25))})
	// It joins one, and grows it ahead, behind, or not at all.
	wantEvent(t, c, row, -9, -4, 2, answer{k: key(2, win(-4, 5, 3, 9, 2, 4, 2, 1, -4), second, third)})
	wantEvent(t, c, row, -9, 7, 2, answer{k: key(2, first, win(5, 12, 2, 11, 2, 9, 2, 0, 5), third)})
	wantEvent(t, c, row, -9, 20, 2, answer{k: key(2, first, second, win(20, 25, 2, 3, 1, 2, 2, 2, 20))})
	// Two, three, all at once.
	wantEvent(t, c, row, -9, 4, -6, answer{k: key(2, win(0, 9, 4, 10, -6, 9, 3, 1, 0), third)})
	c.Gap = 30
	wantEvent(t, c, row, -9, 4, -6, answer{k: key(2, win(0, 34, 5, 11, -6, 9, 4, 3, 0))})
	wantEvent(t, c, row, -9, -9, -6, answer{k: key(2, win(-9, 25, 5, 11, -6, 9, 4, 3, -9))})
	// Early by what the joined ones have together: one below it, at it.
	c.Early = 5
	wantEvent(t, c, row, -9, 4, -6, answer{k: key(2, win(0, 34, 5, 11, -6, 9, 4, 3, 0))})
	for c.Early = 1; c.Early <= 4; c.Early++ {
		c.Discard = false
		wantEvent(t, c, row, -9, 4, -6, answer{k: key(2, win(0, 34, 5, 11, -6, 9, 0, 4, 0)), panes: panes(pane(api.Early, 0, 34, 3, 5, 11, -6, 9))})
		c.Discard = true
		wantEvent(t, c, row, -9, 4, -6, answer{k: key(2, win(0, 34, 0, 0, 0, 0, 0, 4, 0)), panes: panes(pane(api.Early, 0, 34, 3, 5, 11, -6, 9))})
	}
	// What has told all it had, with Discard, joins as nothing.
	wantEvent(t, session(0, 0, true), key(0, win(0, 5, 0, 0, 0, 0, 0, 3, 0), win(6, 11, 0, 9, 8, 7, 0, 4, 6)), -9, 3, -6, answer{k: key(0, win(0, 11, 1, -6, -6, -6, 1, 7, 0))})
	// Counts go no further than MaxCount, and sums go round.
	full := key(0, win(0, 5, most, greatest, 1, greatest, most, most, 0), win(5, 10, most, 5, 1, 5, most, most, 5))
	wantEvent(t, session(0, 0, false), full, -9, 3, 2, answer{k: key(0, win(0, 10, most, least+6, 1, greatest, most, most, 0))})
}

// Sessions at a watermark that has come to some of them.
func TestEventOfSessionsThatAreDue(t *testing.T) {
	c := session(100, 0, false)
	due, open := win(0, 10, 2, 7, 3, 4, 0, 1, 1), win(14, 19, 1, 9, 9, 9, 1, 0, 14)
	// Joined with one that was due, it is due no more: the Hold of what was due does not count.
	wantEvent(t, c, key(0, due), 12, 9, 2, answer{k: key(0, win(0, 14, 3, 9, 2, 4, 1, 1, 12))})
	wantEvent(t, c, key(0, due), 10, 9, 2, answer{k: key(0, win(0, 14, 3, 9, 2, 4, 1, 1, 10))})
	wantEvent(t, c, key(0, due), 9, 9, 2, answer{k: key(0, win(0, 14, 3, 9, 2, 4, 1, 1, 1))})
	// Joined with one that was due and one that was not: the Hold of the latter counts.
	wantEvent(t, c, key(0, due, win(12, 19, 1, 9, 9, 9, 1, 0, 11)), 12, 9, 2, answer{k: key(0, win(0, 19, 4, 18, 2, 9, 2, 1, 11))})
	wantEvent(t, c, key(0, due, open), 12, 9, 2, answer{k: key(0, win(0, 14, 3, 9, 2, 4, 1, 1, 12), open)})
	// It falls into one that is due, and stays so: a Late pane; none of the joined ones holds anything back.
	late := pane(api.Late, 0, 10, 1, 3, 9, 2, 4)
	wantEvent(t, c, key(0, due), 12, 5, 2, answer{k: key(0, win(0, 10, 3, 9, 2, 4, 0, 2, 12)), panes: panes(late)})
	c.Discard = true
	wantEvent(t, c, key(0, due), 12, 5, 2, answer{k: key(0, win(0, 10, 0, 0, 0, 0, 0, 2, 12)), panes: panes(late)})
	c.Discard = false
	wantEvent(t, c, key(0, due), 14, 9, 2, answer{k: key(0, win(0, 14, 3, 9, 2, 4, 0, 2, 14)), panes: panes(pane(api.Late, 0, 14, 1, 3, 9, 2, 4))})
	wantEvent(t, c, key(0), 30, 9, 2, answer{k: key(0, win(9, 14, 1, 2, 2, 2, 0, 1, 30)), panes: panes(pane(api.Late, 9, 14, 0, 1, 2, 2, 2))})
	// Late ones go ahead of early ones.
	c.Early = 1
	wantEvent(t, c, key(0, due), 12, 5, 2, answer{k: key(0, win(0, 10, 3, 9, 2, 4, 0, 2, 12)), panes: panes(late)})

	// An event that alone would be expired goes into a session that is not; the session [9, 14) is expired at 16.
	c = session(2, 0, false)
	wantEvent(t, c, key(0, one(13, 18, 1, 13)), 16, 9, 2, answer{k: key(0, win(9, 18, 2, 3, 1, 2, 2, 0, 13))})
	wantEvent(t, c, key(0, one(14, 19, 1, 14)), 16, 9, 2, answer{k: key(1, one(14, 19, 1, 14)), dropped: true})
	wantEvent(t, c, key(0), 16, 9, 2, answer{k: key(1), dropped: true})
	wantEvent(t, c, key(0), 15, 9, 2, answer{k: key(0, win(9, 14, 1, 2, 2, 2, 0, 1, 15)), panes: panes(pane(api.Late, 9, 14, 0, 1, 2, 2, 2))})
	// One that is expired, and not taken away yet, is joined all the same, if both together are not; else it stays as it is.
	wantEvent(t, c, key(0, one(0, 5, 1, 0)), 9, 4, 2, answer{k: key(0, win(0, 9, 2, 3, 1, 2, 0, 1, 9)), panes: panes(pane(api.Late, 0, 9, 0, 2, 3, 1, 2))})
	wantEvent(t, c, key(0, one(0, 5, 1, 0)), 11, 4, 2, answer{k: key(1, one(0, 5, 1, 0)), dropped: true})
	wantEvent(t, session(0, 0, false), key(3, one(0, 9, 1, 0)), 9, 4, 2, answer{k: key(4, one(0, 9, 1, 0)), dropped: true})
}

// Count, Since, Panes and Dropped: one below MaxCount, at it.
func TestEventCountsNoFurther(t *testing.T) {
	for _, c := range kinds() {
		for _, n := range []int64{most - 2, most - 1, most} {
			more := min(n+1, most)
			wantEvent(t, c, key(n, win(0, 10, n, 9, 4, 5, n, n, 3)), 0, 4, 7, answer{k: key(n, win(0, 10, more, 16, 4, 7, more, n, 3))}.slid(c, 4, 7))
			wantEvent(t, c, key(n), 99, 4, 7, answer{k: key(more), dropped: true})
		}
	}
	c := tumbling(5, 0, false)
	for _, n := range []int64{most - 1, most} {
		wantEvent(t, c, key(0, win(0, 10, n, 9, 4, 5, n, n, 3)), 10, 4, 7, answer{k: key(0, win(0, 10, most, 16, 4, 7, 0, most, 3)), panes: panes(pane(api.Late, 0, 10, n, most, 16, 4, 7))})
	}
	wantEvent(t, c, key(0, one(0, 10, greatest, 3)), 0, 4, 1, answer{k: key(0, win(0, 10, 2, least, 1, greatest, 2, 0, 3))})
	wantEvent(t, c, key(0, one(0, 10, least, 3)), 0, 4, -1, answer{k: key(0, win(0, 10, 2, greatest, least, -1, 2, 0, 3))})
}

// slid is an answer with the other window of a sliding job, which lies ahead, laid by a value.
func (a answer) slid(c api.Config, at, v int64) answer {
	if c.Kind == api.Sliding {
		a.k.Windows = append([]api.Win{one(-5, 5, v, at)}, a.k.Windows...)
	}
	return a
}

// Times and watermarks at the ends of what may be.
func TestEventAtTheEnds(t *testing.T) {
	T, S := tumbling(0, 0, false), session(0, 0, false)
	low, high := int64(api.MinTime), int64(api.MaxTime)
	wantEvent(t, T, key(0), low, low, 1, answer{k: key(0, one(low-6, low+4, 1, low))})
	wantEvent(t, T, key(0), low, high, 1, answer{k: key(0, one(high-4, high+6, 1, high))})
	wantEvent(t, T, key(0), high, high, 1, answer{k: key(0, one(high-4, high+6, 1, high))})
	wantEvent(t, T, key(0), high, low, 1, answer{k: key(1), dropped: true})
	wantEvent(t, S, key(0), low, low, 1, answer{k: key(0, one(low, low+5, 1, low))})
	wantEvent(t, S, key(0), high, high, 1, answer{k: key(0, one(high, high+5, 1, high))})
	wantEvent(t, S, key(0), high, high-5, 1, answer{k: key(1), dropped: true})
	wantEvent(t, S, key(0), high, high-4, 1, answer{k: key(0, one(high-4, high+1, 1, high))})
	// Windows as far out as they go, and as long as they may be.
	S.Gap, S.Late = api.MaxSpan, api.MaxSpan
	wantEvent(t, S, key(0), high, high, 1, answer{k: key(0, one(high, highest, 1, high))})
	wantEvent(t, S, key(0, one(lowest, highest, 1, low)), high, 0, 1, answer{k: key(0, win(lowest, highest, 2, 2, 1, 1, 2, 0, low))})
	wantEvent(t, S, key(0, one(lowest, low+1, 1, 5)), low, low, 1, answer{k: key(0, win(lowest, low+api.MaxSpan, 2, 2, 1, 1, 2, 0, low))})
	T.Size, T.Late = api.MaxSpan, api.MaxSpan
	wantEvent(t, T, key(0), high, high, 1, answer{k: key(0, one(high, highest, 1, high))})
	T.Offset = api.MaxSpan - 1
	wantEvent(t, T, key(0), low, low, 1, answer{k: key(0, one(low-1, low+api.MaxSpan-1, 1, low))})
	T.Offset = 1
	wantEvent(t, T, key(0), low, low, 1, answer{k: key(0, one(lowest+1, low+1, 1, low))})
}

func TestEventOfAny(t *testing.T) {
	r := rand.New(rand.NewSource(4))
	drops, tells := 0, 0
	for i := range 100000 {
		wide := i%2 == 0
		c := anyJob(r, wide)
		k, w, at, v := anyState(r, c, wide), anyTime(r, wide), anyTime(r, wide), anyNumber(r)
		got, want := event(t, c, k, w, at, v), eventOf(c, k, w, at, v)
		if !got.is(want) {
			t.Fatalf("Event(%v, %v, %d, %d, %d) is\n%v, want\n%v", c, k, w, at, v, got, want)
		}
		if got.dropped {
			drops++
		}
		tells += len(got.panes)
	}
	if drops < 1000 || tells < 1000 {
		t.Errorf("what is drawn is too even: %d were dropped, %d panes told", drops, tells)
	}
}
