package plain_test

import (
	"slices"
	"strings"
	"testing"

	"keepsake/api"
	"keepsake/plain"
)

// wants does items, and holds what they tell against what is wanted.
func (w twin) wants(t *testing.T, l []api.Item, want ...api.Pane) {
	t.Helper()
	if got := w.do(t, l...); !slices.Equal(got, want) {
		t.Errorf("%v tell\n%v, want\n%v", l, got, want)
	}
	w.same(t)
}

// stands holds the watermark and the outward mark against what is wanted.
func (w twin) stands(t *testing.T, mark, out int64) {
	t.Helper()
	if w.j.Mark() != mark || w.j.Out() != out {
		t.Errorf("Mark, Out are %d, %d, want %d, %d", w.j.Mark(), w.j.Out(), mark, out)
	}
}

// keeps holds the keys' states against what is wanted.
func (w twin) keeps(t *testing.T, want ...api.KeyState) {
	t.Helper()
	if got := w.j.State().Keys; !slices.EqualFunc(got, want, sameKey) {
		t.Errorf("the keys are\n%+v, want\n%+v", got, want)
	}
}

// The chapter's table, row by row.
func TestExamples(t *testing.T) {
	w := newTwin(t, example())
	w.wants(t, items(event("a", 3, 5), event("a", 12, -2), mark(13)), pane("a", 3, 13, api.OnTime, 0, 2, 3, -2, 5))
	w.stands(t, 13, 13)
	w.wants(t, items(event("a", 4, 9)), pane("a", 3, 13, api.Late, 1, 3, 12, -2, 9))
	w.wants(t, items(mark(18), event("a", 4, 1)))
	w.keeps(t, key("a", 1))

	w = newTwin(t, example())
	w.wants(t, items(event("a", 3, 1)))
	w.stands(t, -4611686018427387904, -4611686018427387904)
	w.keeps(t, key("a", 0, win(3, 13, 1, 1, 1, 1, 1, 0, 3)))

	w = newTwin(t, example())
	w.wants(t, items(event("b", 3, 1), event("a", 3, 1), event("b", 13, 1), mark(30)),
		pane("a", 3, 13, api.OnTime, 0, 1, 1, 1, 1), pane("b", 3, 13, api.OnTime, 0, 1, 1, 1, 1), pane("b", 13, 23, api.OnTime, 0, 1, 1, 1, 1))
	w.keeps(t)

	w = newTwin(t, example())
	for _, x := range items(markOf(1, 0), event("a", 1<<62+1, 0)) {
		if l, e := w.j.Item(x); l != nil || e != api.ErrItem {
			t.Errorf("Item(%v) is %v, %d", x, l, e)
		}
	}
	w.wants(t, items(event("a", 1<<62, 0)))
}

// The chapter's jobs with Early and Discard, and its sessions.
func TestExamplesOfOtherJobs(t *testing.T) {
	w := newTwin(t, with(example(), 2, true))
	w.wants(t, items(event("a", 3, 1), event("a", 3, 2), event("a", 3, 4), mark(13)),
		pane("a", 3, 13, api.Early, 0, 2, 3, 1, 2), pane("a", 3, 13, api.OnTime, 1, 1, 4, 4, 4))

	w = newTwin(t, with(example(), 2, true))
	w.wants(t, items(event("a", 3, 1), event("a", 3, 2), mark(13), event("a", 3, 4)),
		pane("a", 3, 13, api.Early, 0, 2, 3, 1, 2), pane("a", 3, 13, api.OnTime, 1, 0, 0, 0, 0), pane("a", 3, 13, api.Late, 2, 1, 4, 4, 4))

	w = newTwin(t, session())
	w.wants(t, items(event("a", 0, 1), mark(12), event("a", 9, 2), mark(30)),
		pane("a", 0, 10, api.OnTime, 0, 1, 1, 1, 1), pane("a", 0, 19, api.OnTime, 1, 2, 3, 1, 2))
}

// The document's examples of the whole that a job by itself can show.
func TestExamplesOfTheWhole(t *testing.T) {
	w := newTwin(t, tumbling())
	w.wants(t, items(event("a", 3, 7), event("a", 9, -2)))
	w.stands(t, minTime, minTime)
	w.wants(t, items(mark(12)), pane("a", 0, 10, api.OnTime, 0, 2, 5, -2, 7))
	w.stands(t, 12, 12)
	w.wants(t, items(event("a", 4, 9)), pane("a", 0, 10, api.Late, 1, 3, 14, -2, 9))
	w.wants(t, items(mark(15)))
	w.keeps(t)
	w.wants(t, items(event("a", 4, 1)))
	w.keeps(t, key("a", 1))

	w = newTwin(t, tumbling())
	w.wants(t, items(event("a", 13, 1), mark(7)))
	w.stands(t, 7, 7)
	w.wants(t, items(event("a", 3, 1)))
	w.keeps(t, key("a", 0, win(0, 10, 1, 1, 1, 1, 1, 0, 7), win(10, 20, 1, 1, 1, 1, 1, 0, 13)))
	w.wants(t, items(mark(8)))
	w.stands(t, 8, 7)
	w.wants(t, items(mark(10)), pane("a", 0, 10, api.OnTime, 0, 1, 1, 1, 1))
	w.stands(t, 10, 10)

	w = newTwin(t, sliding())
	w.wants(t, items(event("a", 7, 1), event("b", -1, 1)))
	w.keeps(t, key("a", 0, win(0, 10, 1, 1, 1, 1, 1, 0, 7), win(5, 15, 1, 1, 1, 1, 1, 0, 7)),
		key("b", 0, win(-10, 0, 1, 1, 1, 1, 1, 0, -1), win(-5, 5, 1, 1, 1, 1, 1, 0, -1)))

	grows := session()
	grows.Gap = 5
	w = newTwin(t, grows)
	w.wants(t, items(event("a", 3, 1), event("a", 9, 1)))
	w.keeps(t, key("a", 0, win(3, 8, 1, 1, 1, 1, 1, 0, 3), win(9, 14, 1, 1, 1, 1, 1, 0, 9)))
	w.wants(t, items(event("a", 6, 1), event("a", 14, 1)))
	w.keeps(t, key("a", 0, win(3, 14, 3, 3, 1, 1, 3, 0, 3), win(14, 19, 1, 1, 1, 1, 1, 0, 14)))

	w = newTwin(t, with(tumbling(), 2, true))
	w.wants(t, items(event("a", 3, 1), event("a", 3, 2)), pane("a", 0, 10, api.Early, 0, 2, 3, 1, 2))
	w.wants(t, items(mark(10)), pane("a", 0, 10, api.OnTime, 1, 0, 0, 0, 0))

	// What a file of version 1 is read as, in the tenth of them.
	w = fromTwin(t, state(tumbling(), []int64{12}, key("a", 0, win(0, 10, 2, 5, -2, 7, 0, 1, 12))))
	w.wants(t, items(event("a", 4, 9)), pane("a", 0, 10, api.Late, 1, 3, 14, -2, 9))
}

// P14.1: a job at its beginning.
func TestNew(t *testing.T) {
	for _, c := range append(kinds(),
		api.Config{Groups: 1, Sources: 1, Kind: api.Tumbling, Size: 1},
		api.Config{Groups: 32768, Sources: 64, Kind: api.Tumbling, Size: 1 << 40, Offset: 1<<40 - 1, Late: 1 << 40, Early: 1<<31 - 1, Discard: true},
		api.Config{Groups: 7, Sources: 2, Kind: api.Sliding, Size: 64, Slide: 1},
		api.Config{Groups: 7, Sources: 3, Kind: api.Session, Gap: 1 << 40},
	) {
		w := newTwin(t, c)
		w.same(t)
		w.stands(t, minTime, minTime)
		if s := w.j.State(); !slices.Equal(s.Marks, slices.Repeat([]int64{-1 << 62}, c.Sources)) || len(s.Keys) != 0 || s.Config != c {
			t.Errorf("the state of New(%+v) is %+v", c, s)
		}
		if w.j.Done() != 0 || len(w.j.Panes()) != 0 || len(w.j.Saved()) != 0 {
			t.Errorf("New(%+v) has done %d, told %v, saved %v", c, w.j.Done(), w.j.Panes(), w.j.Saved())
		}
	}
}

// wrongJobs are jobs of each of which one thing may not be.
func wrongJobs() []api.Config {
	l := []api.Config{{}}
	for _, set := range []func(c *api.Config){
		func(c *api.Config) { c.Groups = 0 },
		func(c *api.Config) { c.Groups = 32769 },
		func(c *api.Config) { c.Sources = 0 },
		func(c *api.Config) { c.Sources = -1 },
		func(c *api.Config) { c.Sources = 65 },
		func(c *api.Config) { c.Sources = greatest },
		func(c *api.Config) { c.Kind = 0 },
		func(c *api.Config) { c.Kind = 4 },
		func(c *api.Config) { c.Size, c.Gap = 0, 0 },
		func(c *api.Config) { c.Size, c.Gap = 1<<40+1, 1<<40+1 },
		func(c *api.Config) { c.Slide = 11 },
		func(c *api.Config) { c.Offset = 10 },
		func(c *api.Config) { c.Offset = -1 },
		func(c *api.Config) { c.Late = -1 },
		func(c *api.Config) { c.Late = 1<<40 + 1 },
		func(c *api.Config) { c.Early = -1 },
		func(c *api.Config) { c.Early = 1 << 31 },
	} {
		for _, c := range kinds() {
			set(&c)
			l = append(l, c)
		}
	}
	return l
}

// P14.1, P14.5: a job that may not be, whatever else is handed in.
func TestWrongJobs(t *testing.T) {
	for _, c := range wrongJobs() {
		if j, e := plain.New(c); j != nil || e != api.ErrJob {
			t.Errorf("New(%+v) is %v, %d", c, j, e)
		}
		for _, s := range []api.State{
			state(c, []int64{0}), state(c, nil), state(c, []int64{0, maxTime + 1}), state(c, []int64{0}, key("b", 1), key("a", -1)),
		} {
			if j, e := plain.From(s); j != nil || e != api.ErrJob {
				t.Errorf("From(%+v) is %v, %d", s, j, e)
			}
		}
		for _, l := range [][]api.Item{nil, items(event("a", 3, 1)), items(api.Item{Kind: 9})} {
			if told, s, e := plain.Run(c, l...); told != nil || !sameState(s, api.State{}) || e != api.ErrJob {
				t.Errorf("Run(%+v, %v) is %v, %+v, %d", c, l, told, s, e)
			}
		}
	}
}

// wrongStates are states of a job with one source of each of which one thing is not in order.
func wrongStates(c api.Config) []api.State {
	good := win(3, 13, 1, 1, 1, 1, 1, 0, 3)
	l := []api.State{
		state(c, nil), state(c, []int64{}), state(c, []int64{0, 0}), state(c, slices.Repeat([]int64{0}, 65)),
		state(c, []int64{minTime - 1}), state(c, []int64{maxTime + 1}), state(c, []int64{least}), state(c, []int64{greatest}),
	}
	for _, keys := range [][]api.KeyState{
		{key("a", 0)}, {key("a", 1), key("b", 0)}, {key("a", 1), key("a", 1)}, {key("b", 1), key("a", 1)}, {key("a", 1), key("", 1)},
		{key(strings.Repeat("x", 257), 1)}, {key("a", -1)}, {key("a", most+1)}, {key("a", -1, good)}, {key("a", least)}, {key("a", greatest)},
		{key("a", 0, good, good)}, {key("a", 0, win(13, 23, 1, 1, 1, 1, 1, 0, 13), good)},
		{key("a", 0, win(3, 3, 1, 1, 1, 1, 1, 0, 3))}, {key("a", 0, win(4, 3, 1, 1, 1, 1, 1, 0, 3))}, {key("a", 0, win(greatest, least, 1, 1, 1, 1, 1, 0, 3))},
		{key("a", 0, win(minTime-1<<40-1, 3, 1, 1, 1, 1, 1, 0, 3))}, {key("a", 0, win(3, maxTime+1<<40+1, 1, 1, 1, 1, 1, 0, 3))},
		{key("a", 0, win(3, 13, -1, 1, 1, 1, 1, 0, 3))}, {key("a", 0, win(3, 13, most+1, 1, 1, 1, 1, 0, 3))},
		{key("a", 0, win(3, 13, 1, 1, 1, 1, -1, 0, 3))}, {key("a", 0, win(3, 13, 1, 1, 1, 1, most+1, 0, 3))},
		{key("a", 0, win(3, 13, 1, 1, 1, 1, 1, -1, 3))}, {key("a", 0, win(3, 13, 1, 1, 1, 1, 1, most+1, 3))},
		{key("a", 1), key("b", 0, good), key("c", 0, good, good)},
	} {
		l = append(l, state(c, []int64{0}, keys...))
	}
	return l
}

// P14.1: a state that is not in order.
func TestWrongStates(t *testing.T) {
	for _, c := range kinds() {
		for _, s := range wrongStates(c) {
			if j, e := plain.From(s); j != nil || e != api.ErrState {
				t.Errorf("From(%+v) is %v, %d", s, j, e)
			}
		}
		both := state(c, []int64{0}, key("a", 0, win(0, 10, 1, 1, 1, 1, 1, 0, 3), win(5, 15, 1, 1, 1, 1, 1, 0, 7)))
		if _, e := plain.From(both); (e == api.ErrState) != (c.Kind == api.Session) {
			t.Errorf("From(%+v) is %d", both, e)
		}
	}
}

// P14.1: a job stands at the state, and has done no items; an empty list is as none.
func TestFrom(t *testing.T) {
	c := sliding()
	c.Sources = 3
	s := state(c, []int64{9, 4, 7}, key("", 2), key("a", 0, win(0, 10, 2, 5, 2, 3, 1, 1, 4), win(5, 15, 1, 3, 3, 3, 1, 0, 7)), key("ab", 1, win(5, 15, 0, 0, 0, 0, 0, 3, 5)))
	w := fromTwin(t, s)
	w.same(t)
	w.stands(t, 4, 4)
	if w.j.Done() != 0 || len(w.j.Panes()) != 0 || len(w.j.Saved()) != 0 || !sameState(w.j.State(), s) {
		t.Errorf("From(%+v) has done %d, told %v, saved %v, stands at %+v", s, w.j.Done(), w.j.Panes(), w.j.Saved(), w.j.State())
	}
	w.wants(t, items(markOf(1, 10)))
	w.stands(t, 7, 4)
	w.wants(t, items(markOf(2, 10)))
	w.wants(t, items(markOf(0, 10)), pane("a", 0, 10, api.OnTime, 1, 2, 5, 2, 3))
	if w.j.Done() != 3 {
		t.Errorf("behind three items Done is %d", w.j.Done())
	}

	s = state(c, []int64{minTime, 0, maxTime}, key("a", 1))
	s.Keys[0].Windows = []api.Win{}
	fromTwin(t, s).same(t)
	s.Keys = []api.KeyState{}
	fromTwin(t, s).same(t)
}

// P14.2: an item that may not be, alone and among others: none is done.
func TestWrongItems(t *testing.T) {
	for _, c := range kinds() {
		c.Sources = 2
		w := newTwin(t, c)
		w.do(t, event("a", 3, 5), markOf(1, 5), markOf(0, 1), save())
		good := items(event("a", 4, 1), event("b", 4, 1), markOf(0, 200), save())
		for _, x := range wrongItems(c) {
			if l, e := w.j.Item(x); l != nil || e != api.ErrItem {
				t.Errorf("Item(%v) is %v, %d", x, l, e)
			}
			for at := range len(good) + 1 {
				all := slices.Insert(slices.Clone(good), at, x)
				if l, e := w.j.Items(all...); l != nil || e != api.ErrItem {
					t.Errorf("Items(%v) is %v, %d", all, l, e)
				}
				if l, s, e := plain.Run(c, all...); l != nil || !sameState(s, api.State{}) || e != api.ErrItem {
					t.Errorf("Run(%v) is %v, %+v, %d", all, l, s, e)
				}
			}
			w.same(t)
		}
		if w.j.Done() != 4 {
			t.Errorf("Done is %d", w.j.Done())
		}
		w.do(t, good...)
		w.same(t)
	}
}

// No items at all.
func TestNoItems(t *testing.T) {
	w := newTwin(t, example())
	w.wants(t, nil)
	w.wants(t, items(event("a", 3, 5), mark(13)), pane("a", 3, 13, api.OnTime, 0, 1, 5, 5, 5))
	w.wants(t, items())
	if w.j.Done() != 2 {
		t.Errorf("Done is %d", w.j.Done())
	}
	for _, c := range kinds() {
		l, s, e := plain.Run(c)
		if len(l) != 0 || !sameState(s, begin(c)) || e != api.OK {
			t.Errorf("Run(%+v) is %v, %+v, %d", c, l, s, e)
		}
	}
}

// P14.4: a nil job, and one that no call of the package made.
func TestNothing(t *testing.T) {
	refused, _ := plain.New(api.Config{})
	for _, j := range []*plain.Job{nil, {}, new(plain.Job), refused} {
		for _, x := range items(event("a", 3, 1), mark(3), save(), api.Item{Kind: 9}, api.Item{}) {
			if l, e := j.Item(x); l != nil || e != api.ErrNil {
				t.Errorf("Item(%v) of no job is %v, %d", x, l, e)
			}
			if l, e := j.Items(x, x); l != nil || e != api.ErrNil {
				t.Errorf("Items(%v, %v) of no job is %v, %d", x, x, l, e)
			}
		}
		if l, e := j.Items(); l != nil || e != api.ErrNil {
			t.Errorf("Items() of no job is %v, %d", l, e)
		}
		if j.Config() != (api.Config{}) || j.Done() != 0 || j.Mark() != 0 || j.Out() != 0 {
			t.Errorf("no job tells %+v, %d, %d, %d", j.Config(), j.Done(), j.Mark(), j.Out())
		}
		if l, s, saved := j.Panes(), j.State(), j.Saved(); l != nil || !sameState(s, api.State{}) || saved != nil {
			t.Errorf("no job tells %v, %+v, %v", l, s, saved)
		}
		for _, name := range []string{"", "a", strings.Repeat("x", 257)} {
			if k, group, found := j.Key(name); !sameKey(k, api.KeyState{}) || group != 0 || found {
				t.Errorf("Key(%q) of no job is %+v, %d, %t", name, k, group, found)
			}
		}
		if j.Copy() != nil {
			t.Error("there is a copy of no job")
		}
	}
}

// P14.5: the panes of all items, and the state behind them.
func TestRun(t *testing.T) {
	l, s, e := plain.Run(example(), event("b", 3, 1), save(), event("a", 14, 2), mark(13), event("b", 4, 3), mark(18), event("b", 4, 5))
	if want := panes(pane("b", 3, 13, api.OnTime, 0, 1, 1, 1, 1), pane("b", 3, 13, api.Late, 1, 2, 4, 1, 3)); !slices.Equal(l, want) || e != api.OK {
		t.Errorf("Run tells %v, %d", l, e)
	}
	if want := state(example(), []int64{18}, key("a", 0, win(13, 23, 1, 2, 2, 2, 1, 0, 14)), key("b", 1)); !sameState(s, want) {
		t.Errorf("Run comes to %+v, want %+v", s, want)
	}
}
