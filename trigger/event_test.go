package trigger_test

import (
	"math/rand"
	"slices"
	"testing"

	"keepsake/api"
	"keepsake/tally"
	"keepsake/trigger"
)

// coming is a call of Event with what it must answer.
type coming struct {
	c             api.Config
	w             api.Win
	v, time, mark int64
	want          api.Win
	panes         []api.Pane
}

// try looks whether Event answers so, and whether the model does.
func (x coming) try(t *testing.T) {
	t.Helper()
	if w, l := trigger.Event(x.c, "k", x.w, x.v, x.time, x.mark); w != x.want || !slices.Equal(l, x.panes) {
		t.Errorf("Event(%v, %v, %d, %d, %d) is %v, %v, want %v, %v", x.c, x.w, x.v, x.time, x.mark, w, l, x.want, x.panes)
	}
	if w, l := eventOf(x.c, "k", x.w, x.v, x.time, x.mark); w != x.want || !slices.Equal(l, x.panes) {
		t.Errorf("the model says of %v, %v, %d, %d, %d %v, %v", x.c, x.w, x.v, x.time, x.mark, w, l)
	}
}

// full is a window [0, 10) with all its numbers.
func full(hold int64, t api.Tally, since, panes int64) api.Win {
	return api.Win{Span: span(0, 10), Hold: hold, Tally: t, Since: since, Panes: panes}
}

// one is a list of one pane of the window [0, 10).
func one(kind api.PaneKind, nth int64, t api.Tally) []api.Pane {
	return []api.Pane{{Key: "k", Span: span(0, 10), Kind: kind, Nth: nth, Tally: t}}
}

func TestEvent(t *testing.T) {
	nothing := api.Tally{}
	for _, x := range []coming{
		// The chapter's.
		{job(2, 5, false), example(), 1, 2, 0, full(2, of(3, 10, 1, 5), 0, 2), one(api.Early, 1, of(3, 10, 1, 5))},
		{job(9, 5, false), example(), 7, 12, 0, full(3, of(3, 16, 4, 7), 3, 1), nil},

		// The first value of a window.
		{job(0, 0, false), full(9, nothing, 0, 0), -4, 3, 0, full(3, of(1, -4, -4, -4), 1, 0), nil},
		{job(1, 0, false), full(9, nothing, 0, 0), -4, 3, 0, full(3, of(1, -4, -4, -4), 0, 1), one(api.Early, 0, of(1, -4, -4, -4))},
		{job(1, 0, true), full(9, nothing, 0, 0), -4, 3, 0, full(3, nothing, 0, 1), one(api.Early, 0, of(1, -4, -4, -4))},

		// Since, one more, is held against Early: one below it, at it, above it; Early 0.
		{job(4, 5, false), example(), 4, 3, 3, full(3, of(3, 13, 4, 5), 3, 1), nil},
		{job(3, 5, false), example(), 4, 3, 3, full(3, of(3, 13, 4, 5), 0, 2), one(api.Early, 1, of(3, 13, 4, 5))},
		{job(1, 5, false), example(), 4, 3, 3, full(3, of(3, 13, 4, 5), 0, 2), one(api.Early, 1, of(3, 13, 4, 5))},
		{job(0, 5, false), example(), 4, 3, 3, full(3, of(3, 13, 4, 5), 3, 1), nil},
		{job(0, 5, true), example(), 4, 3, 3, full(3, of(3, 13, 4, 5), 3, 1), nil},
		{job(3, 5, true), example(), 4, 3, 3, full(3, nothing, 0, 2), one(api.Early, 1, of(3, 13, 4, 5))},

		// The mark one below the End, at it, above it; late ones go ahead of early ones.
		{job(0, 5, false), example(), 6, 3, 9, full(3, of(3, 15, 4, 6), 3, 1), nil},
		{job(0, 5, false), example(), 6, 3, 10, full(3, of(3, 15, 4, 6), 0, 2), one(api.Late, 1, of(3, 15, 4, 6))},
		{job(0, 5, true), example(), 6, 3, 11, full(3, nothing, 0, 2), one(api.Late, 1, of(3, 15, 4, 6))},
		{job(1, 5, false), example(), 6, 3, 10, full(3, of(3, 15, 4, 6), 0, 2), one(api.Late, 1, of(3, 15, 4, 6))},
		// A window that is over, too, is asked no more than whether it is due.
		{job(1, 5, false), example(), 6, 3, 99, full(3, of(3, 15, 4, 6), 0, 2), one(api.Late, 1, of(3, 15, 4, 6))},

		// A tally that is empty counts as nothing, whatever stands in it.
		{job(0, 5, false), full(3, of(0, 7, -7, 77), 0, 4), 2, 3, 3, full(3, of(1, 2, 2, 2), 1, 4), nil},
		{job(0, 5, false), full(3, of(-5, 7, -7, 77), 0, 4), 2, 3, 3, full(3, of(1, 2, 2, 2), 1, 4), nil},

		// Sums that go round.
		{job(0, 5, false), full(3, of(1, greatest, greatest, greatest), 1, 0), 1, 3, 3, full(3, of(2, least, 1, greatest), 2, 0), nil},
		{job(0, 5, false), full(3, of(1, least, least, least), 1, 0), -1, 3, 3, full(3, of(2, greatest, least, -1), 2, 0), nil},
	} {
		x.try(t)
	}
}

// The lesser one of Hold and the greater one of time and mark.
func TestEventHolds(t *testing.T) {
	for _, r := range []struct{ hold, time, mark, want int64 }{
		{5, 3, 4, 4}, {5, 4, 3, 4}, {5, 4, 4, 4}, {5, 5, 4, 5}, {5, 4, 5, 5}, {5, 6, 4, 5}, {5, 4, 6, 5}, {5, 3, least, 3}, {5, least, 3, 3}, {5, least, least, least}, {5, greatest, least, 5}, {5, least, greatest, 5},
		{least, 0, 0, least}, {greatest, 0, -7, 0}, {greatest, -7, 0, 0}, {greatest, greatest, 0, greatest}, {greatest, least, least, least}, {-3, -5, -4, -4}, {-4, -5, -3, -4}, {0, api.MinTime, api.MinTime, api.MinTime}, {api.MaxTime, api.MaxTime, api.MinTime, api.MaxTime},
	} {
		w := api.Win{Span: span(0, 10), Hold: r.hold}
		if got, _ := trigger.Event(job(0, 0, false), "k", w, 1, r.time, r.mark); got.Hold != r.want {
			t.Errorf("Event with Hold %d, time %d, mark %d: Hold %d, want %d", r.hold, r.time, r.mark, got.Hold, r.want)
		}
		// A pane that is told does not turn it.
		if got, l := trigger.Event(job(1, 0, true), "k", w, 1, r.time, r.mark); got.Hold != r.want || len(l) != 1 {
			t.Errorf("Event with Hold %d, time %d, mark %d: Hold %d, want %d, behind %v", r.hold, r.time, r.mark, got.Hold, r.want, l)
		}
	}
}

// Count, Since and Panes: each one below MaxCount, at it, above it and below 0.
func TestEventCountsNoFurther(t *testing.T) {
	for _, n := range countEdges() {
		more := oneMoreOf(n)
		count := more
		sum, low, high := int64(16), int64(4), int64(7)
		if n < 1 {
			count, sum, low, high = 1, 7, 7, 7
		}
		x := of(count, sum, low, high)
		coming{job(0, 0, false), full(3, of(n, 9, 4, 5), n, n), 7, 3, 3, full(3, x, more, n), nil}.try(t)
		coming{job(0, 0, false), full(3, of(n, 9, 4, 5), n, n), 7, 3, 10, full(3, x, 0, more), one(api.Late, n, x)}.try(t)
		coming{job(0, 0, true), full(3, of(n, 9, 4, 5), n, n), 7, 3, 10, full(3, api.Tally{}, 0, more), one(api.Late, n, x)}.try(t)
	}
	// Since stays at MaxCount, and is held against Early there.
	coming{job(most, 0, false), full(3, of(1, 9, 9, 9), most-2, 0), 9, 3, 3, full(3, of(2, 18, 9, 9), most-1, 0), nil}.try(t)
	coming{job(most, 0, false), full(3, of(1, 9, 9, 9), most-1, 0), 9, 3, 3, full(3, of(2, 18, 9, 9), 0, 1), one(api.Early, 0, of(2, 18, 9, 9))}.try(t)
	coming{job(most+1, 0, false), full(3, of(1, 9, 9, 9), most, 0), 9, 3, 3, full(3, of(2, 18, 9, 9), most, 0), nil}.try(t)
	coming{job(most+1, 0, false), full(3, of(1, 9, 9, 9), greatest, 0), 9, 3, 3, full(3, of(2, 18, 9, 9), most, 0), nil}.try(t)
}

func TestEventOfAny(t *testing.T) {
	r := rand.New(rand.NewSource(3))
	for i := range 100000 {
		wide := i%2 == 0
		c, key, w := anyJob(r, wide), anyKey(r), anyWin(r, wide)
		v, time, mark := anyNumber(r), drawn(r, wide), drawn(r, wide)
		got, l := trigger.Event(c, key, w, v, time, mark)
		want, panes := eventOf(c, key, w, v, time, mark)
		if got != want || !slices.Equal(l, panes) {
			t.Fatalf("Event(%v, %q, %v, %d, %d, %d) is %v, %v, want %v, %v", c, key, w, v, time, mark, got, l, want, panes)
		}
		if len(l) == 1 && l[0].Tally != tally.Add(w.Tally, v) || len(l) == 0 && got.Tally != tally.Add(w.Tally, v) {
			t.Fatalf("Event(%v, %q, %v, %d, %d, %d) is %v, %v: another tally than Add's", c, key, w, v, time, mark, got, l)
		}
	}
}
