package engine_test

import (
	"slices"
	"testing"

	"keepsake/api"
	"keepsake/engine"
)

// The chapter's table, row by row; here a is worker 0's, and d worker 1's.
func TestExamples(t *testing.T) {
	noSize := example()
	noSize.Size = 0
	for _, x := range []struct {
		c       api.Config
		workers int
		want    api.Errno
	}{{example(), 0, api.ErrArg}, {example(), 5, api.ErrArg}, {noSize, 0, api.ErrJob}} {
		if e, err := engine.New(x.c, x.workers); e != nil || err != x.want {
			t.Errorf("New(%+v, %d) is %v, %d, want %d", x.c, x.workers, e, err, x.want)
		}
	}
	w := newTwin(t, example(), 2)
	w.feed(t, event("a", 3, 5), event("d", 4, 1), mark(13))
	if s, e := w.e.State(); w.e.Fed() != 3 || e != api.ErrBusy || !sameState(s, api.State{}) {
		t.Errorf("Fed is %d, State %+v, %d", w.e.Fed(), s, e)
	}
	w.todo(t, 2, 2)
	for i, want := range []bool{true, true, false} {
		if got, e := w.e.Step(0); got != want || e != api.OK {
			t.Errorf("the Step %d is %t, %d", i, got, e)
		}
		w.want.step(0)
	}
	if got, e := w.e.Step(7); got || e != api.ErrArg {
		t.Errorf("Step(7) is %t, %d", got, e)
	}
	a, d := pane("a", 3, 13, api.OnTime, 0, 1, 5, 5, 5), onTime("d", 3, 13)
	w.told(t, by(0, 2, a))
	if !slices.Equal(w.e.Panes("a"), panes(a)) || w.e.Panes("d") != nil || w.e.Out() != minTime {
		t.Errorf("Panes are %v, %v, Out is %d", w.e.Panes("a"), w.e.Panes("d"), w.e.Out())
	}
	w.drain(t)
	w.told(t, by(0, 2, a), by(1, 2, d))
	if w.e.Out() != 13 {
		t.Errorf("Out is %d", w.e.Out())
	}
	w.feed(t, save(), event("a", 14, 1))
	w.notSaved(t, 0, map[int]api.Errno{0: api.ErrBusy, 1: api.ErrArg})
	if n := w.picks(t, 0, 1, 0, 0); n != 3 || w.e.Saves() != 1 {
		t.Errorf("Picks are %d, Saves %d", n, w.e.Saves())
	}
	w.saved(t, 0, state(example(), []int64{13}, key("a", 0, win(3, 13, 1, 5, 5, 5, 0, 1, 3)), key("d", 0, win(3, 13, 1, 1, 1, 1, 0, 1, 4))))
	w.stands(t, state(example(), []int64{13}, key("a", 0, win(3, 13, 1, 5, 5, 5, 0, 1, 3), one(13, 23, 14)), key("d", 0, win(3, 13, 1, 1, 1, 1, 0, 1, 4))))
}

// The document's seventh example of the whole: whoever goes first, each tells the pane of its key; which of them is told first hangs on the picks.
func TestWhoGoesFirst(t *testing.T) {
	a, d := by(0, 2, onTime("a", 3, 13)), by(1, 2, onTime("d", 3, 13))
	for _, x := range []struct {
		picks []int
		want  []api.Told
	}{{[]int{0, 0, 1, 1}, []api.Told{a, d}}, {[]int{1, 1, 0, 0}, []api.Told{d, a}}, {[]int{0, 1, 1, 0}, []api.Told{d, a}}, {[]int{1, 0, 0, 1}, []api.Told{a, d}}} {
		w := newTwin(t, example(), 2)
		w.feed(t, event("a", 3, 1), event("d", 4, 1), mark(13))
		w.picks(t, x.picks...)
		w.told(t, x.want...)
		w.stands(t, state(example(), []int64{13}, key("a", 0, win(3, 13, 1, 1, 1, 1, 0, 1, 3)), key("d", 0, win(3, 13, 1, 1, 1, 1, 0, 1, 4))))
	}
}

// P17.1: a job that may not be comes ahead of workers that may not be.
func TestNewRefuses(t *testing.T) {
	wrong := []api.Config{{}, example(), example(), sliding(), session(), sources(0), sources(65), sources(-1), sources(least), sources(greatest)}
	wrong[1].Groups = 32769
	wrong[2].Offset = 10
	wrong[3].Slide = 11
	wrong[4].Size = 1
	for _, c := range wrong {
		for _, workers := range []int{least, -1, 0, 1, 2, 5, greatest} {
			if e, err := engine.New(c, workers); e != nil || err != api.ErrJob {
				t.Errorf("New(%+v, %d) is %v, %d", c, workers, e, err)
			}
		}
	}
	for _, c := range kinds() {
		for _, workers := range []int{least, -1, 0, 5, 6, 32768, greatest} {
			if e, err := engine.New(c, workers); e != nil || err != api.ErrArg {
				t.Errorf("New(%+v, %d) is %v, %d", c, workers, e, err)
			}
		}
	}
}

// P17.1: of each number of workers that may be there is an engine, at the job's beginning.
func TestNew(t *testing.T) {
	for _, c := range kinds() {
		c.Sources = 3
		for workers := 1; workers <= 4; workers++ {
			w := newTwin(t, c, workers)
			w.told(t)
			w.stands(t, begin(c))
			w.notSaved(t, 0, map[int]api.Errno{least: 2, -1: 2, 0: 2, 1: 2, greatest: 2})
			if w.e.Workers() != workers || w.e.Fed() != 0 || w.e.Out() != minTime || w.e.Config() != c {
				t.Errorf("New(%+v, %d) has %d workers, %d items, Out %d, the job %+v", c, workers, w.e.Workers(), w.e.Fed(), w.e.Out(), w.e.Config())
			}
		}
	}
}

// As many workers as a job can have.
func TestMostWorkers(t *testing.T) {
	c := example()
	c.Groups = 32768
	if e, err := engine.New(c, 32769); e != nil || err != api.ErrArg {
		t.Errorf("of 32769 workers there is %v, %d", e, err)
	}
	e, err := engine.New(c, 32768)
	if err != api.OK {
		t.Fatalf("of 32768 workers New is %d", err)
	}
	e.Feed(event("a", 3, 5), save(), mark(13), mark(12), event("b", 4, 1))
	a, b := owner("a", 32768, 32768), owner("b", 32768, 32768)
	if e.ToDo(a) != 4 || e.ToDo(b) != 4 || e.ToDo(32767) != 3 || e.ToDo(32768) != 0 || e.Saves() != 0 {
		t.Errorf("%d, %d, %d are to do, Saves %d", e.ToDo(a), e.ToDo(b), e.ToDo(32767), e.Saves())
	}
	e.Drain()
	want := []api.Told{by(a, 2, pane("a", 3, 13, api.OnTime, 0, 1, 5, 5, 5)), by(b, 4, pane("b", 3, 13, api.Late, 0, 1, 1, 1, 1))}
	slices.SortFunc(want, func(x, y api.Told) int { return x.Worker - y.Worker })
	if got := e.Told(); !slices.Equal(got, want) || e.Saves() != 1 || e.Out() != 13 {
		t.Errorf("Told are %v, Saves %d, Out %d", got, e.Saves(), e.Out())
	}
	s, err := e.Saved(0)
	if !sameState(s, state(c, []int64{minTime}, key("a", 0, win(3, 13, 1, 5, 5, 5, 1, 0, 3)))) || err != api.OK {
		t.Errorf("Saved is %+v, %d", s, err)
	}
}

// wrongStates are states of which one thing is not in order each.
func wrongStates() []api.State {
	c := example()
	return []api.State{
		state(c, nil), state(c, []int64{}), state(c, []int64{1, 2}), state(c, []int64{minTime - 1}), state(c, []int64{maxTime + 1}),
		state(c, []int64{5}, key("a", 0)),
		state(c, []int64{5}, key("a", -1)), state(c, []int64{5}, key("a", most+1)),
		state(c, []int64{5}, key("b", 1), key("a", 1)), state(c, []int64{5}, key("a", 1), key("a", 1)),
		state(c, []int64{5}, key(string(make([]byte, 257)), 1)),
		state(c, []int64{5}, key("a", 0, one(13, 23, 13), one(3, 13, 3))), state(c, []int64{5}, key("a", 0, one(3, 13, 3), one(3, 13, 3))),
		state(c, []int64{5}, key("a", 0, one(13, 13, 3))), state(c, []int64{5}, key("a", 0, one(minTime-maxSpan-1, 13, 3))),
		state(c, []int64{5}, key("a", 0, win(3, 13, -1, 1, 1, 1, 1, 0, 3))), state(c, []int64{5}, key("a", 0, win(3, 13, 1, 1, 1, 1, most+1, 0, 3))),
		state(session(), []int64{5}, key("a", 0, one(0, 10, 3), one(9, 19, 3))),
	}
}

// P17.1: a state's job comes first, then whether it is in order, then the workers.
func TestFromRefuses(t *testing.T) {
	for _, s := range wrongStates() {
		noJob := copied(s)
		noJob.Config.Groups = 0
		for _, workers := range []int{least, -1, 0, 1, 4, 5, greatest} {
			if e, err := engine.From(s, workers); e != nil || err != api.ErrState {
				t.Errorf("From(%+v, %d) is %v, %d", s, workers, e, err)
			}
			if e, err := engine.From(noJob, workers); e != nil || err != api.ErrJob {
				t.Errorf("From(%+v, %d) is %v, %d", noJob, workers, e, err)
			}
		}
	}
	s := state(example(), []int64{5}, key("a", 1))
	for _, workers := range []int{least, -1, 0, 5, 32768, greatest} {
		if e, err := engine.From(s, workers); e != nil || err != api.ErrArg {
			t.Errorf("From(%+v, %d) is %v, %d", s, workers, e, err)
		}
	}
	if e, err := engine.From(api.State{}, 0); e != nil || err != api.ErrJob {
		t.Errorf("From of nothing is %v, %d", e, err)
	}
}

// P17.1: an engine that stands at a state has its keys, its marks, and nothing to do; its items begin at 0.
func TestFrom(t *testing.T) {
	s := state(sources(2), []int64{20, 15}, key("a", 1, win(3, 13, 1, 1, 1, 1, 0, 1, 3), one(13, 23, 13)), key("b", 2), key("c", 0, one(13, 23, 11)), key("d", 0, one(23, 33, 25)))
	for workers := 1; workers <= 4; workers++ {
		w := fromTwin(t, s, workers)
		w.stands(t, s)
		w.told(t)
		if w.e.Out() != 11 || w.e.Fed() != 0 || w.e.Saves() != 0 || w.e.Workers() != workers {
			t.Errorf("From has Out %d, %d items, %d saves, %d workers", w.e.Out(), w.e.Fed(), w.e.Saves(), w.e.Workers())
		}
		// What of it is late is told by the marks of the state, and a mark that does not raise the watermark by both of them.
		w.feed(t, event("a", 5, 2), markOf(0, 90), markOf(1, 14), save(), markOf(1, 23))
		w.drain(t)
		if got, want := w.e.Panes("a"), panes(pane("a", 3, 13, api.Late, 1, 2, 3, 1, 2), onTime("a", 13, 23)); !slices.Equal(got, want) {
			t.Errorf("%d workers: Panes are %v, want %v", workers, got, want)
		}
		at := owner("c", workers, 4)
		if got := w.e.Told(); !slices.Contains(got, by(at, 4, onTime("c", 13, 23))) || len(got) != 3 {
			t.Errorf("%d workers: Told are %v", workers, got)
		}
		w.saved(t, 0, state(sources(2), []int64{90, 15}, key("a", 1, win(3, 13, 2, 3, 1, 2, 0, 2, 3), one(13, 23, 13)), key("b", 2), key("c", 0, one(13, 23, 11)), key("d", 0, one(23, 33, 25))))
		w.stands(t, state(sources(2), []int64{90, 23}, key("a", 1, win(13, 23, 1, 1, 1, 1, 0, 1, 13)), key("b", 2), key("c", 0, win(13, 23, 1, 1, 1, 1, 0, 1, 11)), key("d", 0, one(23, 33, 25))))
	}
}

// P17.1: a state that is in order, but can't be, is gone on from all the same.
func TestFromWhatCannotBe(t *testing.T) {
	// [3, 13) is expired, [4, 40) no window of the job, a Hold no time.
	s := state(example(), []int64{25}, key("a", 0, one(3, 13, 3), win(4, 40, 0, 7, 8, 9, 0, 0, least)), key("d", 0, one(23, 33, greatest)))
	for workers := 1; workers <= 4; workers++ {
		w := fromTwin(t, s, workers)
		w.stands(t, s)
		if w.e.Out() != least {
			t.Errorf("Out is %d", w.e.Out())
		}
		w.feed(t, mark(20), event("a", 3, 1), save(), mark(26), mark(40))
		w.drain(t)
		if got, want := w.e.Panes("a"), panes(pane("a", 4, 40, api.OnTime, 0, 0, 7, 8, 9)); !slices.Equal(got, want) {
			t.Errorf("Panes are %v, want %v", got, want)
		}
		want := copied(s)
		want.Keys[0].Dropped = 1
		w.saved(t, 0, want)
		if w.e.Out() != 40 {
			t.Errorf("Out is %d", w.e.Out())
		}
	}
}

// P17.2: of items of which one may not be none is fed, wherever it stands among them.
func TestFeedRefuses(t *testing.T) {
	for _, c := range []api.Config{example(), sources(3), sliding(), session()} {
		w := newTwin(t, c, 3)
		w.feed(t, event("a", 3, 1), save())
		for _, x := range wrongItems(c) {
			for _, l := range [][]api.Item{{x}, {x, event("a", 4, 1)}, {event("a", 4, 1), mark(13), x}, {save(), x, save()}} {
				if e := w.e.Feed(l...); e != api.ErrItem || w.e.Fed() != 2 || w.e.ToDo(0) != 2 || w.e.ToDo(2) != 1 {
					t.Errorf("Feed(%+v) is %d, Fed %d", l, e, w.e.Fed())
				}
			}
		}
		w.same(t)
		w.drain(t)
		w.same(t)
		if w.e.Saves() != 1 {
			t.Errorf("Saves are %d", w.e.Saves())
		}
	}
}

// P17.2: items at the bounds of what may be are fed; what is fed comes behind all others, in one call or in several; none is none.
func TestFeed(t *testing.T) {
	w := newTwin(t, sources(2), 2)
	w.feed(t)
	w.todo(t, 0, 0)
	long := string(make([]byte, 256))
	for _, x := range items(event("", minTime, least), event(long, maxTime, greatest), markOf(1, minTime), markOf(0, maxTime), save()) {
		if e := w.feed(t, x); e != api.OK {
			t.Errorf("Feed(%+v) is %d", x, e)
		}
	}
	w.same(t)
	w.picks(t, 0, 1, 1)
	w.feed(t, save(), event("a", maxTime, 1), event("d", maxTime, 1))
	w.same(t)
	w.feed(t, []api.Item{}...)
	if w.e.Fed() != 8 {
		t.Errorf("Fed is %d", w.e.Fed())
	}
	w.drain(t)
	w.same(t)
}

// P17.3, P17.4: each worker does its own events and all marks and saves, one a Step, in their order.
func TestStep(t *testing.T) {
	w := newTwin(t, with(example(), 2, false), 4)
	w.feed(t, event("a", 3, 1), event("b", 3, 1), event("a", 4, 2), event("c", 3, 1), mark(5), save(), event("a", 5, 4), mark(13), event("c", 5, 9))
	w.todo(t, 6, 4, 5, 3)
	for n, steps := range []int{6, 4, 5, 3} {
		for left := steps; left > 0; left-- {
			if w.e.ToDo(n) != left || !w.step(t, n) {
				t.Errorf("the worker %d has %d to do, want %d", n, w.e.ToDo(n), left)
			}
			w.same(t)
		}
		for range 3 {
			if w.step(t, n) {
				t.Errorf("the worker %d does something that there is not", n)
			}
		}
	}
	w.told(t, by(0, 2, pane("a", 3, 13, api.Early, 0, 2, 3, 1, 2)), by(0, 7, pane("a", 3, 13, api.OnTime, 1, 3, 7, 1, 4)),
		by(1, 7, onTime("b", 3, 13)), by(2, 7, onTime("c", 3, 13)), by(2, 8, pane("c", 3, 13, api.Late, 1, 2, 10, 1, 9)))
	w.todo(t, 0, 0, 0, 0)
}

// P17.3: a Step of a worker that is not there changes nothing, and no more does one of a worker that has nothing to do.
func TestStepOfNobody(t *testing.T) {
	w := newTwin(t, example(), 3)
	for _, n := range []int{least, -1, 3, 4, 32768, greatest} {
		for range 2 {
			if ok, e := w.e.Step(n); ok || e != api.ErrArg {
				t.Errorf("Step(%d) is %t, %d", n, ok, e)
			}
			w.same(t)
			if got := w.e.ToDo(n); got != 0 {
				t.Errorf("ToDo(%d) is %d", n, got)
			}
			w.feed(t, event("a", 3, 1), mark(2))
		}
	}
	w.drain(t)
	for n := range 3 {
		if ok, e := w.e.Step(n); ok || e != api.OK {
			t.Errorf("Step(%d) is %t, %d", n, ok, e)
		}
	}
	w.same(t)
	w.feed(t, event("a", 3, 1)) // worker 0's alone
	for n := range 3 {
		if ok, e := w.e.Step(n); ok != (n == 0) || e != api.OK {
			t.Errorf("Step(%d) is %t, %d", n, ok, e)
		}
	}
}

// P17.3: Picks are Steps in that order; numbers of no worker do nothing, nor do those of workers that have nothing to do.
func TestPicks(t *testing.T) {
	w := newTwin(t, example(), 2)
	if n := w.picks(t, 0, 1, -1, 2); n != 0 {
		t.Errorf("with nothing to do Picks are %d", n)
	}
	w.feed(t, event("a", 3, 1), event("d", 3, 1), mark(13), event("d", 4, 1))
	for _, x := range []struct {
		l    []int
		want int
	}{{nil, 0}, {[]int{-1, 2, 7, least, greatest}, 0}, {[]int{1, 5, 1}, 2}, {[]int{0, -1, 0, 0, 0, 1, 1}, 3}, {[]int{0, 1}, 0}} {
		if n := w.picks(t, x.l...); n != x.want {
			t.Errorf("Picks(%v) are %d, want %d", x.l, n, x.want)
		}
		w.same(t)
	}
	w.told(t, by(1, 2, onTime("d", 3, 13)), by(0, 2, onTime("a", 3, 13)), by(1, 3, pane("d", 3, 13, api.Late, 1, 2, 2, 1, 1)))
}

// P17.3: Drain lets the worker 0 do all of its own first, then the next one.
func TestDrain(t *testing.T) {
	w := newTwin(t, with(example(), 1, false), 4)
	w.drain(t) // with nothing to do
	w.told(t)
	w.feed(t, event("d", 3, 1), event("b", 3, 1), event("a", 3, 1), event("c", 3, 1), mark(13), event("a", 3, 1))
	w.picks(t, 2)
	w.drain(t)
	early := func(name string) api.Pane { return pane(name, 3, 13, api.Early, 0, 1, 1, 1, 1) }
	again := func(name string) api.Pane { return pane(name, 3, 13, api.OnTime, 1, 1, 1, 1, 1) }
	w.told(t, by(2, 3, early("c")),
		by(0, 2, early("a")), by(0, 4, again("a")), by(0, 5, pane("a", 3, 13, api.Late, 2, 2, 2, 1, 1)),
		by(1, 1, early("b")), by(1, 4, again("b")), by(2, 4, again("c")), by(3, 0, early("d")), by(3, 4, again("d")))
	w.drain(t)
	w.todo(t, 0, 0, 0, 0)
	if n := len(w.e.Told()); n != 9 {
		t.Errorf("behind a second Drain %d panes are told", n)
	}
}

// P17.3: what one mark tells comes by rising End, of one End by rising keys, of one key by rising Start.
func TestOrderOfAMark(t *testing.T) {
	l := items(event("b", 12, 1), event("\xff", 7, 1), event("a", 7, 1), event("", 7, 1), event("ab", 7, 1), event("B", 7, 1), mark(15))
	want := panes(onTime("", 0, 10), onTime("B", 0, 10), onTime("a", 0, 10), onTime("ab", 0, 10), onTime("\xff", 0, 10),
		onTime("", 5, 15), onTime("B", 5, 15), onTime("a", 5, 15), onTime("ab", 5, 15), onTime("b", 5, 15), onTime("\xff", 5, 15))
	for workers := 1; workers <= 4; workers++ {
		w := newTwin(t, sliding(), workers)
		w.feed(t, l...)
		w.drain(t)
		var all []api.Told
		for n := range workers {
			for _, p := range want {
				if owner(p.Key, workers, 4) == n {
					all = append(all, by(n, 6, p))
				}
			}
		}
		w.told(t, all...)
	}
}

// P17.3, P17.4: a worker's watermark is its own: an event comes late, or is dropped, by the marks that its worker has done; Out is the least of all workers' marks and Holds.
func TestWorkersAtUnlikePlaces(t *testing.T) {
	w := newTwin(t, example(), 2)
	w.feed(t, event("a", 3, 1), event("d", 12, 1), mark(5), event("a", 8, 1), mark(13), event("d", 3, 1), mark(18), event("a", 3, 1), event("d", 4, 1), mark(40))
	out := func(want int64) {
		t.Helper()
		if got := w.e.Out(); got != want {
			t.Errorf("Out is %d, want %d", got, want)
		}
		w.same(t)
	}
	out(minTime)
	w.picks(t, 0, 0, 0)
	out(minTime) // worker 1 has done no mark
	w.picks(t, 1, 1)
	out(3) // a's Hold; both stand at 5
	w.picks(t, 0, 0)
	out(5) // worker 0 stands at 18, worker 1 at 5
	w.picks(t, 0, 0)
	w.told(t, by(0, 4, pane("a", 3, 13, api.OnTime, 0, 2, 2, 1, 1)))
	out(5)
	w.picks(t, 1)
	out(13)
	w.picks(t, 1, 1, 1)
	w.told(t, by(0, 4, pane("a", 3, 13, api.OnTime, 0, 2, 2, 1, 1)), by(1, 4, onTime("d", 3, 13)), by(1, 5, pane("d", 3, 13, api.Late, 1, 2, 2, 1, 1)))
	out(18)
	w.drain(t)
	out(40)
	w.stands(t, state(example(), []int64{40}, key("a", 1), key("d", 1)))
}

// Marks that do not raise the watermark are items of all workers, all the same; they tell nothing.
func TestMarksThatDoNotRaise(t *testing.T) {
	w := newTwin(t, sources(2), 3)
	w.feed(t, event("a", 3, 1), markOf(0, 100), markOf(0, 50), markOf(1, minTime))
	w.todo(t, 4, 3, 3)
	for _, n := range []int{0, 0, 1, 2, 2, 2, 0, 0} {
		if !w.step(t, n) {
			t.Errorf("the worker %d has nothing to do", n)
		}
		w.same(t)
	}
	w.todo(t, 0, 2, 0)
	if w.e.Out() != minTime || w.e.Fed() != 4 {
		t.Errorf("Out is %d, Fed %d", w.e.Out(), w.e.Fed())
	}
	w.picks(t, 1, 1)
	w.stands(t, state(sources(2), []int64{100, minTime}, key("a", 0, one(3, 13, 3))))
	w.feed(t, markOf(1, 13), markOf(1, 13), markOf(1, 12), markOf(0, 99))
	w.todo(t, 4, 4, 4)
	w.drain(t)
	w.told(t, by(0, 4, onTime("a", 3, 13)))
	w.stands(t, state(sources(2), []int64{100, 13}, key("a", 0, win(3, 13, 1, 1, 1, 1, 0, 1, 3))))
}

// P17.4: Told are the panes of all keys as they were told, Panes those of one.
func TestToldAndPanes(t *testing.T) {
	w := newTwin(t, with(example(), 1, false), 2)
	w.feed(t, event("a", 3, 1), event("b", 3, 2), event("", 3, 3), event("a", 4, 4), event("d", 3, 5))
	early := func(name string, v int64) api.Pane { return pane(name, 3, 13, api.Early, 0, 1, v, v, v) }
	second := pane("a", 3, 13, api.Early, 1, 2, 5, 1, 4)
	w.picks(t, 1, 0, 0, 1, 0, 0)
	w.told(t, by(1, 4, early("d", 5)), by(0, 0, early("a", 1)), by(0, 1, early("b", 2)), by(0, 2, early("", 3)), by(0, 3, second))
	for name, want := range map[string][]api.Pane{"a": {early("a", 1), second}, "b": {early("b", 2)}, "": {early("", 3)}, "d": {early("d", 5)}} {
		if got := w.e.Panes(name); !slices.Equal(got, want) {
			t.Errorf("Panes(%q) are %v, want %v", name, got, want)
		}
	}
	for _, name := range []string{"A", "nobody", "a ", string(make([]byte, 257))} {
		if l := w.e.Panes(name); l != nil {
			t.Errorf("Panes(%q) are %v", name, l)
		}
	}
}

// Asking changes nothing.
func TestAskingChangesNothing(t *testing.T) {
	w := newTwin(t, example(), 2)
	w.feed(t, event("a", 3, 1), save(), mark(13), event("d", 3, 1), save())
	w.picks(t, 0, 0, 1)
	for range 3 {
		w.e.ToDo(0)
		w.e.ToDo(9)
		w.e.Panes("nobody")
		w.e.State()
		w.e.Saved(0)
		w.e.Saved(1)
		w.e.Saved(9)
		w.e.Copy()
		w.e.Picks()
		w.e.Feed()
		w.e.Step(-1)
		w.same(t)
	}
	w.drain(t)
	w.same(t)
}
