package trigger_test

import (
	"math/rand"
	"slices"
	"testing"

	"keepsake/api"
	"keepsake/tally"
	"keepsake/trigger"
)

// Of a job that may be: what Tell answers tells none Behind, but where it is due.
func TestWhatWasToldTellsNoMore(t *testing.T) {
	r := rand.New(rand.NewSource(5))
	for i := range 50000 {
		wide := i%2 == 0
		early := []int{0, 1, 2, api.MaxEarly - 1, api.MaxEarly}[r.Intn(5)]
		w, mark, discard := anyWin(r, wide), drawn(r, wide), r.Intn(2) == 0
		_, left, e := trigger.Tell("k", w, api.PaneKind(1+r.Intn(3)), discard)
		kind, ok := trigger.Behind(job(early, 0, discard), left, mark)
		if due := w.End <= mark; e != api.OK || ok != due || due && kind != api.Late || !due && kind != 0 {
			t.Fatalf("Tell of %v leaves %v, which tells at %d with Early %d %d, %t", w, left, mark, early, kind, ok)
		}
	}
}

// played is a window that begins with nothing, Event by Event, the mark among them rising past its End.
func played(r *rand.Rand, c api.Config, values []int64) (api.Win, []api.Pane) {
	w := api.Win{Span: span(0, 10), Hold: r.Int63n(20)}
	var all []api.Pane
	mark := int64(-5)
	for _, v := range values {
		if r.Intn(3) == 0 {
			mark += r.Int63n(4)
		}
		next, l := trigger.Event(c, "k", w, v, r.Int63n(10), mark)
		w, all = next, append(all, l...)
	}
	return w, all
}

func anyValues(r *rand.Rand) []int64 {
	l := make([]int64, r.Intn(60))
	for i := range l {
		l[i] = anyNumber(r)
	}
	return l
}

func TestEventByEvent(t *testing.T) {
	r := rand.New(rand.NewSource(6))
	for i := range 20000 {
		values := anyValues(r)
		c := job(r.Intn(6), r.Int63n(9), i%2 == 0)
		w, all := played(r, c, values)
		last, together := int64(0), w.Tally
		for n, p := range all {
			if p.Nth != int64(n) || p.Key != "k" || p.Span != span(0, 10) {
				t.Fatalf("%v of %v: the pane %d is %v", c, values, n, p)
			}
			if !c.Discard && p.Count <= last {
				t.Fatalf("%v of %v: the pane %v behind the Count %d", c, values, p, last)
			}
			last, together = p.Count, tally.Join(together, p.Tally)
		}
		if w.Panes != int64(len(all)) {
			t.Fatalf("%v of %v: Panes %d behind %d panes", c, values, w.Panes, len(all))
		}
		// With Discard the panes and what is left are the values, each once; without it the window alone is.
		if want := tally.Of(values...); c.Discard && together != want || !c.Discard && w.Tally != want {
			t.Fatalf("%v of %v: %v is left, behind %v", c, values, w, all)
		}
		if together.Count < int64(len(values)) {
			t.Fatalf("%v of %v: %v is left, behind %v", c, values, w, all)
		}
	}
}

// Early by itself: a pane at each so many values, and none more.
func TestEarlyPanesComeAtTheirTime(t *testing.T) {
	for early := 1; early <= 7; early++ {
		for _, discard := range []bool{false, true} {
			w, told := api.Win{Span: span(0, 10)}, 0
			for n := 1; n <= 50; n++ {
				next, l := trigger.Event(job(early, 0, discard), "k", w, 1, 0, 0)
				w = next
				told += len(l)
				if told != n/early || (len(l) == 1) != (n%early == 0) || w.Since != int64(n%early) {
					t.Fatalf("with Early %d %d panes behind %d values, %v", early, told, n, w)
				}
			}
		}
	}
}

// Behind Mark no window is left that is over, and the rest stands in the order in which it stood.
func TestWhatMarkLeaves(t *testing.T) {
	r := rand.New(rand.NewSource(7))
	for i := range 20000 {
		wide := i%2 == 0
		l := make([]api.Win, r.Intn(20))
		for j := range l {
			l[j] = anyWin(r, wide)
			l[j].Start = int64(j) // by which it is known again
		}
		c := job(r.Intn(4), r.Int63n(1<<(1+r.Intn(40))), r.Intn(2) == 0)
		from, to := drawn(r, wide), drawn(r, wide)
		left, _ := trigger.Mark(c, "k", l, from, to)
		var stood []int64
		for _, w := range left {
			if overOf(w.End, c.Late, to) {
				t.Fatalf("Mark(%v, %v, %d, %d) leaves %v, which is over", c, l, from, to, w)
			}
			stood = append(stood, w.Start)
		}
		if !slices.IsSorted(stood) {
			t.Fatalf("Mark(%v, %v, %d, %d) leaves %v", c, l, from, to, left)
		}
		// And none is gone that is not over; once more, nothing is left to do.
		over := 0
		for _, w := range l {
			if overOf(w.End, c.Late, to) {
				over++
			}
		}
		if len(left) != len(l)-over {
			t.Fatalf("Mark(%v, %v, %d, %d) leaves %v", c, l, from, to, left)
		}
		if again, told := trigger.Mark(c, "k", left, to, to); !slices.Equal(again, left) || len(told) != 0 {
			t.Fatalf("Mark(%v, %v, %d, %d) makes of that %v, %v", c, left, to, to, again, told)
		}
	}
}

// DOC.md's example 6: T with Early 2 and Discard.
func TestDiscardedWindowTellsNothingOnTime(t *testing.T) {
	c := api.Config{Groups: 4, Sources: 1, Kind: api.Tumbling, Size: 10, Late: 5, Early: 2, Discard: true}
	w := api.Win{Span: span(0, 10), Hold: 3}
	w, none := trigger.Event(c, "a", w, 1, 3, api.MinTime)
	w, early := trigger.Event(c, "a", w, 2, 3, api.MinTime)
	left, onTime := trigger.Mark(c, "a", []api.Win{w}, api.MinTime, 10)
	want := []api.Pane{{Key: "a", Span: span(0, 10), Kind: api.Early, Nth: 0, Tally: of(2, 3, 1, 2)}, {Key: "a", Span: span(0, 10), Kind: api.OnTime, Nth: 1}}
	if got := slices.Concat(none, early, onTime); !slices.Equal(got, want) {
		t.Errorf("%v is told, want %v", got, want)
	}
	if want := []api.Win{{Span: span(0, 10), Hold: 3, Panes: 2}}; !slices.Equal(left, want) {
		t.Errorf("%v is left, want %v", left, want)
	}
}

// What is handed in stays, the room behind it included; answers are nobody else's.
func TestSharesNothing(t *testing.T) {
	room := []api.Win{ending(0, 10), ending(5, 15), ending(2, 12), ending(1, 99), ending(3, 7), ending(-1, 8)}
	was := slices.Clone(room)
	c := job(1, 3, true)
	left, told := trigger.Mark(c, "k", room[:4], 0, 12)
	otherLeft, otherTold := trigger.Mark(c, "k", room[:4], 0, 12)
	wantLeft, wantTold := markOf(c, "k", was[:4], 0, 12)
	if !slices.Equal(room, was) {
		t.Fatalf("Mark leaves %v of its windows", room)
	}
	left, told = left[:cap(left)], told[:cap(told)]
	for i := range left {
		left[i] = ending(-7, -7)
	}
	for i := range told {
		told[i] = api.Pane{Key: "other"}
	}
	if !slices.Equal(room, was) {
		t.Fatalf("writing over what Mark answered makes its windows %v", room)
	}
	for i := range room {
		room[i] = ending(-9, -9)
	}
	if !slices.Equal(otherLeft, wantLeft) || !slices.Equal(otherTold, wantTold) {
		t.Fatalf("writing over one answer and the windows makes another answer %v, %v", otherLeft, otherTold)
	}

	// Where nothing is told and nothing taken away, the list is a new one still.
	room = slices.Clone(was)
	left, _ = trigger.Mark(c, "k", room, 0, 0)
	if !slices.Equal(left, was) {
		t.Fatalf("Mark makes %v of %v", left, was)
	}
	left[0], left[5] = api.Win{}, api.Win{}
	if !slices.Equal(room, was) {
		t.Fatalf("writing over what Mark answered makes its windows %v", room)
	}

	w := example()
	_, one := trigger.Event(c, "k", w, 1, 2, 0)
	_, two := trigger.Event(c, "k", w, 1, 2, 0)
	for i := range one[:cap(one)] {
		one[:cap(one)][i] = api.Pane{Key: "other"}
	}
	if want := (api.Pane{Key: "k", Span: span(0, 10), Kind: api.Early, Nth: 1, Tally: of(3, 10, 1, 5)}); w != example() || len(two) != 1 || two[0] != want {
		t.Fatalf("writing over a list of panes makes another one %v", two)
	}
}

// fuzzed are windows out of bytes, four a window.
func fuzzed(b []byte) []api.Win {
	var l []api.Win
	for ; len(b) >= 4 && len(l) < 40; b = b[4:] {
		n := int64(int8(b[2]))
		l = append(l, api.Win{
			Span:  span(int64(int8(b[0])), int64(int8(b[1]))<<(b[3]%57)),
			Hold:  n,
			Tally: of(n%4, n<<50, n-9, n+9),
			Since: n % 8 * (most / 4),
			Panes: n % 7 * (most / 3),
		})
	}
	return l
}

func FuzzMark(f *testing.F) {
	f.Add([]byte{0, 10, 2, 0, 5, 15, 2, 0}, int64(5), true, int64(0), int64(15))
	f.Add([]byte{0, 127, 9, 56, 0, 128, 9, 56}, int64(greatest), false, int64(least), int64(greatest))
	f.Add([]byte{}, int64(0), false, int64(0), int64(0))
	f.Fuzz(func(t *testing.T, b []byte, late int64, discard bool, from, to int64) {
		marks(t, job(0, late, discard), "k", fuzzed(b), from, to)
	})
}

func FuzzEvent(f *testing.F) {
	f.Add(int64(10), int64(3), int64(2), int64(9), int64(2), int64(1), 2, false, int64(1), int64(2), int64(0))
	f.Add(int64(10), int64(3), int64(most), int64(greatest), int64(most), int64(greatest), 0, true, int64(greatest), int64(least), int64(10))
	f.Fuzz(func(t *testing.T, end, hold, count, sum, since, panes int64, early int, discard bool, v, time, mark int64) {
		w := api.Win{Span: span(0, end), Hold: hold, Tally: of(count, sum, hold, sum), Since: since, Panes: panes}
		c := job(early, 0, discard)
		got, l := trigger.Event(c, "k", w, v, time, mark)
		if want, panes := eventOf(c, "k", w, v, time, mark); got != want || !slices.Equal(l, panes) {
			t.Fatalf("Event(%v, %v, %d, %d, %d) is %v, %v, want %v, %v", c, w, v, time, mark, got, l, want, panes)
		}
	})
}
