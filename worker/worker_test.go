package worker_test

import (
	"slices"
	"strings"
	"testing"

	"keepsake/api"
	"keepsake/worker"
)

// The chapter's examples, in their order.
func TestExamples(t *testing.T) {
	for _, x := range []struct {
		c     api.Config
		n, of int
		at    int64
		want  api.Errno
	}{{example(), 0, 5, 0, 2}, {example(), 1, 1, 0, 2}, {api.Config{}, 0, 1, 0, 4}, {example(), 0, 1, maxTime + 1, 2}} {
		if w, e := worker.New(x.c, x.n, x.of, x.at); w != nil || e != x.want {
			t.Errorf("New(%+v, %d, %d, %d) is %v, %d, want %d", x.c, x.n, x.of, x.at, w, e, x.want)
		}
	}
	w := alone(t, example(), 0)
	w.wants(t, msgs(event("b", 3, 7)))
	w.wants(t, msgs(event("a", 12, 1)))
	w.stands(t, 0, 0, 10, 2)
	w.wants(t, msgs(mark(10)), pane("b", 0, 10, api.OnTime, 0, 1, 7, 7, 7))
	w.wants(t, msgs(event("b", 4, 2)), pane("b", 0, 10, api.Late, 1, 2, 9, 2, 7))
	w.refuses(t, mark(10), 261)
	w.refuses(t, mark(9), 261)
	w.refuses(t, api.Msg{Kind: 9}, 5)
	w.refuses(t, api.Msg{Kind: api.MsgSave, Time: 1}, 5)
	w.stands(t, 10, 10, 20, 2)
	w.wants(t, msgs(mark(15)))
	w.stands(t, 15, 12, 20, 1)
	if k, found := w.w.Key("b"); found || !sameKey(k, api.KeyState{}) {
		t.Errorf("Key(b) is %+v, %t", k, found)
	}
	if l := slices.Collect(w.w.All("b")); len(l) != 0 {
		t.Errorf("All(b) tells %+v", l)
	}
	w.wants(t, msgs(event("b", 1, 1)))
	if k, found := w.w.Key("b"); !found || !sameKey(k, key("b", 1)) {
		t.Errorf("Key(b) is %+v, %t", k, found)
	}
}

// P16.1: a worker at its beginning: each of as many as there may be, at marks at their bounds.
func TestNew(t *testing.T) {
	for _, c := range append(kinds(), api.Config{Groups: 32768, Sources: 64, Kind: api.Tumbling, Size: 1 << 40, Offset: 1<<40 - 1, Late: 1 << 40, Early: 1<<31 - 1, Discard: true}) {
		for _, of := range []int{1, 2, 3, c.Groups} {
			for _, n := range []int{0, of / 2, of - 1} {
				for _, at := range []int64{minTime, -1, 0, 7, maxTime} {
					newTwin(t, c, n, of, at).stands(t, at, at, 0, 0)
				}
			}
		}
	}
}

// wrongJobs are jobs of each of which one thing may not be.
func wrongJobs() []api.Config {
	l := []api.Config{{}}
	for _, set := range []func(c *api.Config){
		func(c *api.Config) { c.Groups = 0 },
		func(c *api.Config) { c.Groups = 32769 },
		func(c *api.Config) { c.Sources = 0 },
		func(c *api.Config) { c.Sources = 65 },
		func(c *api.Config) { c.Sources = least },
		func(c *api.Config) { c.Kind = 0 },
		func(c *api.Config) { c.Kind = 4 },
		func(c *api.Config) { c.Size, c.Gap = 0, 0 },
		func(c *api.Config) { c.Size, c.Gap = 1<<40+1, 1<<40+1 },
		func(c *api.Config) { c.Slide = 11 },
		func(c *api.Config) { c.Offset = 10 },
		func(c *api.Config) { c.Late = -1 },
		func(c *api.Config) { c.Late = 1<<40 + 1 },
		func(c *api.Config) { c.Early = -1 },
		func(c *api.Config) { c.Early = 1 << 31 },
	} {
		for _, c := range kinds() {
			set(&c)
			l = append(l, c)
		}
	}
	return l
}

// P16.1: a job that may not be, whatever else is handed in.
func TestWrongJobs(t *testing.T) {
	for _, c := range wrongJobs() {
		for _, n := range []int{least, -1, 0, 1, greatest} {
			for _, of := range []int{least, 0, 1, 5, greatest} {
				for _, at := range []int64{0, maxTime + 1} {
					if w, e := worker.New(c, n, of, at); w != nil || e != api.ErrJob {
						t.Errorf("New(%+v, %d, %d, %d) is %v, %d", c, n, of, at, w, e)
					}
				}
			}
		}
	}
}

// P16.1: too few workers and too many, a worker that there is not, a mark that is no time.
func TestWrongNumbers(t *testing.T) {
	for _, c := range kinds() {
		for _, x := range []struct {
			n, of int
			at    int64
		}{
			{0, 0, 0}, {0, -1, 0}, {0, least, 0}, {0, 5, 0}, {4, 5, 0}, {0, greatest, 0}, {0, 32768, 0}, {-1, -1, 0}, {-1, 0, 0},
			{-1, 1, 0}, {1, 1, 0}, {4, 4, 0}, {3, 2, 0}, {least, 4, 0}, {greatest, 4, 0},
			{0, 1, minTime - 1}, {0, 1, maxTime + 1}, {3, 4, least}, {3, 4, greatest}, {4, 4, greatest}, {0, 5, least},
		} {
			if w, e := worker.New(c, x.n, x.of, x.at); w != nil || e != api.ErrArg {
				t.Errorf("New(%+v, %d, %d, %d) is %v, %d", c, x.n, x.of, x.at, w, e)
			}
		}
	}
	most := example()
	most.Groups = 32768
	newTwin(t, most, 32767, 32768, 0).same(t)
	if w, e := worker.New(most, 0, 32769, 0); w != nil || e != api.ErrArg {
		t.Errorf("New with 32769 workers is %v, %d", w, e)
	}
}

// P16.2: its keys are these, and no others: what they hold back, when they are due, when they go.
func TestLoad(t *testing.T) {
	w := alone(t, sliding(), 4)
	w.do(t, event("a", 3, 1), event("gone", 7, 1))
	l := keys(key("", 2), key("a", 0, win(0, 10, 2, 5, 2, 3, 1, 1, 3), one(5, 15, 7)), key("ab", 1, win(5, 15, 0, 0, 0, 0, 0, 3, -9)))
	w.load(t, l...)
	w.stands(t, 4, -9, 10, 3)
	if got := w.w.Keys(); !sameKeys(got, l) {
		t.Errorf("Keys are %+v, want %+v", got, l)
	}
	w.wants(t, msgs(mark(9)))
	w.stands(t, 9, -9, 10, 3)
	w.wants(t, msgs(mark(10)), pane("a", 0, 10, api.OnTime, 1, 2, 5, 2, 3))
	w.stands(t, 10, -9, 15, 3)
	w.wants(t, msgs(mark(15)), onTime("a", 5, 15), pane("ab", 5, 15, api.OnTime, 3, 0, 0, 0, 0))
	w.stands(t, 15, 15, 0, 3)
	w.wants(t, msgs(mark(20)))
	w.stands(t, 20, 20, 0, 2)

	// Without any it has none, and keeps its mark.
	w.load(t)
	w.stands(t, 20, 20, 0, 0)
	w.load(t, keys()...)
	w.stands(t, 20, 20, 0, 0)
	w.load(t, l...)
	w.stands(t, 20, 20, 0, 3)
	w.wants(t, msgs(event("new", 21, 1)))
	w.load(t, l[1])
	w.stands(t, 20, 20, 0, 1)
}

// P16.2: keys that do not rise, that are not in order, that have nothing.
func TestLoadOfWrongKeys(t *testing.T) {
	good := one(0, 10, 3)
	for _, c := range kinds() {
		w := alone(t, c, 0)
		w.do(t, event("a", 3, 5), event("b", 4, 5))
		for _, l := range [][]api.KeyState{
			{key("a", 0)}, {key("a", 1), key("b", 0)}, {key("a", 0), key("b", 1)}, {key("a", 1), key("a", 1)}, {key("b", 1), key("a", 1)}, {key("a", 1), key("", 1)}, {key("ab", 1), key("a", 1)},
			{key(strings.Repeat("x", 257), 1)}, {key("a", -1)}, {key("a", most+1)}, {key("a", -1, good)}, {key("a", least)}, {key("a", greatest)},
			{key("a", 0, good, good)}, {key("a", 0, one(10, 20, 13), good)},
			{key("a", 0, one(3, 3, 3))}, {key("a", 0, one(4, 3, 3))}, {key("a", 0, one(greatest, least, 3))},
			{key("a", 0, one(minTime-maxSpan-1, 3, 3))}, {key("a", 0, one(3, maxTime+maxSpan+1, 3))},
			{key("a", 0, win(0, 10, -1, 1, 1, 1, 1, 0, 3))}, {key("a", 0, win(0, 10, most+1, 1, 1, 1, 1, 0, 3))},
			{key("a", 0, win(0, 10, 1, 1, 1, 1, -1, 0, 3))}, {key("a", 0, win(0, 10, 1, 1, 1, 1, most+1, 0, 3))},
			{key("a", 0, win(0, 10, 1, 1, 1, 1, 1, -1, 3))}, {key("a", 0, win(0, 10, 1, 1, 1, 1, 1, most+1, 3))},
			{key("a", 1), key("b", 0, good), key("c", 0, good, good)},
		} {
			if e := w.load(t, l...); e != api.ErrState {
				t.Errorf("%+v: Load(%+v) is %d", c, l, e)
			}
			w.same(t)
		}
		both := keys(key("a", 0, one(0, 10, 3), one(5, 15, 7)))
		if e := w.copied(t).load(t, both...); (e == api.ErrState) != (c.Kind == api.Session) {
			t.Errorf("%+v: Load(%+v) is %d", c, both, e)
		}
		at := keys(key("", most, one(minTime-maxSpan, maxTime+maxSpan, least)), key(strings.Repeat("x", 256), 0, win(0, 10, most, 1, 1, 1, most, most, greatest)))
		if e := w.load(t, at...); e != api.OK {
			t.Errorf("%+v: Load(%+v) is %d", c, at, e)
		}
		w.same(t)
	}
}

// P16.2: keys that are another worker's; but what is no keys' list is that first.
func TestLoadOfOthersKeys(t *testing.T) {
	own := [][]string{{"a", "b"}, {"c", "d"}}
	for n, names := range own {
		w := newTwin(t, example(), n, 2, 0)
		w.do(t, event(names[0], 3, 5))
		for _, l := range [][]api.KeyState{
			{key(own[1-n][0], 1)}, {key(own[1-n][1], 0, one(0, 10, 3))}, {key("a", 1), key("c", 1)}, {key("a", 1), key("b", 1), key("d", 1)}, {key("b", 1), key("c", 1), key("d", 1)},
		} {
			if e := w.load(t, l...); e != api.ErrOther {
				t.Errorf("Load(%+v) is %d", l, e)
			}
			w.same(t)
			for _, wrong := range []api.KeyState{key("e", 0), key("a", 1), key("e", -1), key(strings.Repeat("x", 257), 1)} {
				if e := w.load(t, append(l, wrong)...); e != api.ErrState {
					t.Errorf("Load(%+v) is %d", append(l, wrong), e)
				}
			}
			w.same(t)
		}
		if e := w.load(t, key(names[0], 1), key(names[1], 2)); e != api.OK {
			t.Errorf("Load of its own keys is %d", e)
		}
		w.stands(t, 0, 0, 0, 2)
	}
}

// P16.2: windows that are due at its mark, or expired, or never due: a mark that comes takes away what is expired by it, whenever it became so.
func TestLoadOfAnyWindows(t *testing.T) {
	w := alone(t, example(), 100)
	l := keys(key("a", 0, one(0, 10, 3), one(90, 100, 93), one(100, 110, 103)), key("b", 0, one(80, 95, 1), one(85, 95, 2), one(90, 96, 3)), key("c", 3, one(0, 1, -5)), key("d", 0, one(2, 101, 50), one(90, maxTime+1, 60)))
	w.load(t, l...)
	w.stands(t, 100, 50, 101, 4)
	if got := w.w.Keys(); !sameKeys(got, l) {
		t.Errorf("Keys are %+v", got)
	}
	w.wants(t, msgs(event("a", 3, 1), event("c", 3, 1), save())) // what is expired takes nothing, and stays
	if k, _ := w.w.Key("a"); k.Dropped != 1 || len(k.Windows) != 3 {
		t.Errorf("Key(a) is %+v", k)
	}
	w.wants(t, msgs(mark(101)), onTime("d", 2, 101))
	if got := w.w.Keys(); !sameKeys(got, keys(key("a", 1, one(90, 100, 93), one(100, 110, 103)), key("c", 4), key("d", 0, win(2, 101, 1, 1, 1, 1, 0, 1, 50), one(90, maxTime+1, 60)))) {
		t.Errorf("behind the mark Keys are %+v", got)
	}
	w.stands(t, 101, 60, 110, 3)
	w.wants(t, msgs(mark(maxTime)), onTime("a", 100, 110))
	w.stands(t, maxTime, 60, maxTime+1, 3)
}

// P16.8: a nil worker, and one that no call of the package made.
func TestNothing(t *testing.T) {
	refused, _ := worker.New(api.Config{}, 0, 1, 0)
	for _, w := range []*worker.Worker{nil, {}, new(worker.Worker), refused} {
		for _, x := range msgs(event("a", 3, 1), mark(3), save(), api.Msg{Kind: 9}, api.Msg{}, api.Msg{Kind: api.MsgSave, Seq: -1}) {
			if l, e := w.Take(x); l != nil || e != api.ErrNil {
				t.Errorf("Take(%+v) of no worker is %v, %d", x, l, e)
			}
		}
		for _, l := range [][]api.KeyState{nil, {}, {key("a", 1)}, {key("a", 0)}, {key("b", 1), key("a", -1)}} {
			if e := w.Load(l...); e != api.ErrNil {
				t.Errorf("Load(%+v) of no worker is %d", l, e)
			}
		}
		if n, waits := w.Next(); w.Mark() != 0 || w.Outward() != 0 || w.Len() != 0 || n != 0 || waits {
			t.Errorf("no worker tells %d, %d, %d, %d, %t", w.Mark(), w.Outward(), w.Len(), n, waits)
		}
		for _, name := range []string{"", "a", strings.Repeat("x", 257)} {
			if k, found := w.Key(name); !sameKey(k, api.KeyState{}) || found {
				t.Errorf("Key(%q) of no worker is %+v, %t", name, k, found)
			}
			all := w.All(name)
			if all == nil {
				t.Fatal("All of no worker is nil")
			}
			for range 2 {
				for k := range all {
					t.Errorf("All(%q) of no worker tells %+v", name, k)
				}
			}
		}
		if w.Keys() != nil || w.Copy() != nil {
			t.Errorf("no worker has the keys %v, and the copy %v", w.Keys(), w.Copy())
		}
	}
}

// P16.5: Len, Key and Keys, of keys that are there, that are not, that are there no more.
func TestKeys(t *testing.T) {
	w := newTwin(t, example(), 0, 2, 0)
	if w.w.Keys() != nil {
		t.Errorf("Keys are %#v", w.w.Keys())
	}
	w.do(t, event("b", 3, 1), event("a", 12, 1), event("a", 2, 1))
	w.refuses(t, event("c", 3, 1), 260)
	want := keys(key("a", 0, one(0, 10, 2), one(10, 20, 12)), key("b", 0, one(0, 10, 3)))
	if got := w.w.Keys(); !sameKeys(got, want) || w.w.Len() != 2 {
		t.Errorf("Keys are %+v", got)
	}
	for _, name := range []string{"", "A", "a ", "c", strings.Repeat("a", 256), strings.Repeat("a", 1<<20)} {
		if k, found := w.w.Key(name); found || !sameKey(k, api.KeyState{}) || k.Windows != nil {
			t.Errorf("Key(%q) is %+v, %t", name, k, found)
		}
	}
	w.do(t, mark(15))
	want = keys(key("a", 0, one(10, 20, 12)))
	if got := w.w.Keys(); !sameKeys(got, want) || w.w.Len() != 1 {
		t.Errorf("Keys are %+v", got)
	}
	w.do(t, event("b", 3, 1), event("b", 3, 1), mark(maxTime))
	want = keys(key("b", 2))
	if got := w.w.Keys(); !sameKeys(got, want) || got[0].Windows != nil {
		t.Errorf("Keys are %#v", got)
	}
	w.same(t)
}
