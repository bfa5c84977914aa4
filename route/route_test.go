package route_test

import (
	"slices"
	"strings"
	"testing"

	"keepsake/api"
	"keepsake/route"
)

// The chapter's table, row by row; its key b is d here, whose group is 3.
func TestExamples(t *testing.T) {
	for _, x := range []struct {
		c       api.Config
		workers int
		want    api.Errno
	}{{job(), 0, api.ErrArg}, {job(), 5, api.ErrArg}, {api.Config{}, 2, api.ErrJob}} {
		if r, e := route.New(x.c, x.workers); r != nil || e != x.want {
			t.Errorf("New(%+v, %d) is %v, %d, want %d", x.c, x.workers, r, e, x.want)
		}
	}
	w := newTwin(t, job(), 2)
	w.wants(t, items(event("a", 5, 1), event("d", 6, 2)), fell(0, 0, "a", 5, 1), fell(1, 1, "d", 6, 2))
	w.wants(t, items(mark(0, 7)))
	w.wants(t, items(mark(1, 3)), rose(0, 3, 3), rose(1, 3, 3))
	w.wants(t, items(mark(1, 2)))
	w.wants(t, items(save()), saves(0, 5), saves(1, 5))
	w.stands(t, 6, 3, 7, 3)
	for _, x := range items(mark(2, 9), api.Item{Kind: 9}) {
		if l, e := w.r.Item(x); l != nil || e != api.ErrItem {
			t.Errorf("Item(%v) is %v, %d", x, l, e)
		}
	}
	w.stands(t, 6, 3, 7, 3)
	l, n, e := w.r.Items(event("a", 1, 1), mark(5, 1), save())
	if !slices.Equal(l, []api.Sent{fell(0, 6, "a", 1, 1)}) || n != 1 || e != api.ErrItem {
		t.Errorf("Items are %v, %d, %d", l, n, e)
	}
	w.stands(t, 7, 3, 7, 3)
}

// P15.1: a router at a job's beginning, for as many workers as may be.
func TestNew(t *testing.T) {
	for _, c := range append(kinds(), jobOf(1, 1), jobOf(32768, 64), jobOf(7, 64)) {
		for _, workers := range []int{1, 2, 3, 4, 7, c.Groups - 1, c.Groups} {
			if workers < 1 || workers > c.Groups {
				continue
			}
			w := newTwin(t, c, workers)
			w.same(t)
			w.stands(t, 0, minTime, slices.Repeat([]int64{-1 << 62}, c.Sources)...)
		}
	}
}

// notSoMany are numbers of workers that may not be.
func notSoMany(c api.Config) []int {
	return []int{0, -1, least, c.Groups + 1, 32769, 1 << 32, 1<<32 + 1, greatest}
}

// P15.1: too few workers, and too many.
func TestWrongWorkers(t *testing.T) {
	for _, c := range append(kinds(), jobOf(1, 1), jobOf(32768, 1)) {
		marks := make([]int64, c.Sources)
		for _, workers := range notSoMany(c) {
			if r, e := route.New(c, workers); r != nil || e != api.ErrArg {
				t.Errorf("New(%+v, %d) is %v, %d", c, workers, r, e)
			}
			if r, e := route.From(c, workers, marks, 5); r != nil || e != api.ErrArg {
				t.Errorf("From(%+v, %d, ..) is %v, %d", c, workers, r, e)
			}
		}
	}
}

// wrongJobs are jobs of each of which one thing may not be.
func wrongJobs() []api.Config {
	l := []api.Config{{}}
	for _, set := range []func(c *api.Config){
		func(c *api.Config) { c.Groups = 0 },
		func(c *api.Config) { c.Groups = -1 },
		func(c *api.Config) { c.Groups = 32769 },
		func(c *api.Config) { c.Groups = greatest },
		func(c *api.Config) { c.Sources = 0 },
		func(c *api.Config) { c.Sources = -1 },
		func(c *api.Config) { c.Sources = 65 },
		func(c *api.Config) { c.Sources = greatest },
		func(c *api.Config) { c.Kind = 0 },
		func(c *api.Config) { c.Kind = 4 },
		func(c *api.Config) { c.Size, c.Gap = 0, 0 },
		func(c *api.Config) { c.Slide = 11 },
		func(c *api.Config) { c.Offset = 10 },
		func(c *api.Config) { c.Late = -1 },
		func(c *api.Config) { c.Early = 1 << 31 },
	} {
		for _, c := range kinds() {
			set(&c)
			l = append(l, c)
		}
	}
	return l
}

// P15.1: a job that may not be comes first, whatever else is wrong.
func TestWrongJobs(t *testing.T) {
	for _, c := range wrongJobs() {
		for _, workers := range append(notSoMany(c), 1, 4) {
			if r, e := route.New(c, workers); r != nil || e != api.ErrJob {
				t.Errorf("New(%+v, %d) is %v, %d", c, workers, r, e)
			}
			for _, marks := range [][]int64{nil, {0}, {0, 0}, {0, maxTime + 1}} {
				for _, seq := range []int64{-1, 0, greatest} {
					if r, e := route.From(c, workers, marks, seq); r != nil || e != api.ErrJob {
						t.Errorf("From(%+v, %d, %v, %d) is %v, %d", c, workers, marks, seq, r, e)
					}
				}
			}
		}
	}
}

// P15.1: a router that stands where it is told, at the bounds of times and numbers, too.
func TestFrom(t *testing.T) {
	for _, c := range kinds() {
		for _, marks := range [][]int64{{0, 0}, {7, 3}, {3, 7}, {minTime, maxTime}, {maxTime, maxTime}, {minTime, minTime}, {-1, 1}} {
			for _, seq := range []int64{0, 1, 9, 1 << 31, furthest - 1, furthest} {
				w := fromTwin(t, c, 3, marks, seq)
				w.same(t)
				w.stands(t, seq, min(marks[0], marks[1]), marks...)
				w.one(t, event("a", 5, 1))
				w.stands(t, seq+1, min(marks[0], marks[1]), marks...)
			}
		}
	}
	w := fromTwin(t, job(), 2, []int64{7, 3}, 9)
	w.wants(t, items(mark(1, 7), mark(0, 8), event("c", 1, 2), save()),
		rose(0, 9, 7), rose(1, 9, 7), fell(1, 11, "c", 1, 2), saves(0, 12), saves(1, 12))
	w.stands(t, 13, 7, 8, 7)

	w = fromTwin(t, jobOf(9, 1), 1, []int64{maxTime}, furthest)
	w.wants(t, items(mark(0, maxTime), save(), event("a", maxTime, 0)), saves(0, furthest+1), fell(0, furthest+2, "a", maxTime, 0))

	marks := make([]int64, 64)
	for i := range marks {
		marks[i] = int64(i*37%64) - 32
	}
	fromTwin(t, jobOf(4, 64), 4, marks, 0).same(t)
}

// P15.1: marks that are not Sources times, and numbers that may not be.
func TestWrongFrom(t *testing.T) {
	for _, c := range append(kinds(), jobOf(4, 1), jobOf(4, 64)) {
		good := slices.Repeat([]int64{5}, c.Sources)
		for _, seq := range []int64{-1, -2, least, furthest + 1, furthest + 2, greatest} {
			if r, e := route.From(c, 2, good, seq); r != nil || e != api.ErrArg {
				t.Errorf("From(%+v, 2, %v, %d) is %v, %d", c, good, seq, r, e)
			}
		}
		wrong := [][]int64{nil, {}, good[1:], append(slices.Clone(good), 5), make([]int64, 65), make([]int64, 1000)}
		for place := range good {
			for _, x := range []int64{minTime - 1, maxTime + 1, least, greatest} {
				l := slices.Clone(good)
				l[place] = x
				wrong = append(wrong, l)
			}
		}
		for _, marks := range wrong {
			for _, seq := range []int64{0, 9, -1} {
				if r, e := route.From(c, 2, marks, seq); r != nil || e != api.ErrArg {
					t.Errorf("From(%+v, 2, %v, %d) is %v, %d", c, marks, seq, r, e)
				}
			}
		}
	}
}

// Two routers have nothing to do with one another.
func TestNewOnesAreApart(t *testing.T) {
	a, b := newTwin(t, job(), 2), newTwin(t, job(), 2)
	marks := []int64{1, 2}
	c, d := fromTwin(t, job(), 2, marks, 4), fromTwin(t, job(), 2, marks, 4)
	for _, w := range []twin{a, c, a} {
		w.do(t, mark(0, 9), save(), mark(1, 9), event("a", 1, 1))
		for _, x := range []twin{a, b, c, d} {
			x.same(t)
		}
	}
}

// P15.4: the worker of a key, for all numbers of workers; a key that is none.
func TestWorker(t *testing.T) {
	w := newTwin(t, job(), 4)
	for n, key := range []string{"a", "b", "c", "d"} {
		if worker, e := w.r.Worker(key); worker != n || e != api.OK {
			t.Errorf("Worker(%q) is %d, %d, want %d", key, worker, e, n)
		}
	}
	for _, groups := range []int{1, 2, 5, 16, 300} {
		for workers := 1; workers <= groups; workers++ {
			newTwin(t, jobOf(groups, 1), workers).same(t)
		}
	}
	for _, workers := range []int{1, 2, 1000, 32767, 32768} {
		newTwin(t, jobOf(32768, 1), workers).same(t)
	}
	for _, n := range []int{257, 258, 512, 70000} {
		for _, letter := range []string{"x", "\x00", "\xff"} {
			if worker, e := w.r.Worker(strings.Repeat(letter, n)); worker != 0 || e != api.ErrItem {
				t.Errorf("Worker of %d bytes is %d, %d", n, worker, e)
			}
		}
	}
	// Bytes are counted, not letters.
	if _, e := w.r.Worker(strings.Repeat("ü", 128)); e != api.OK {
		t.Errorf("Worker of 256 bytes is %d", e)
	}
	if worker, e := w.r.Worker(strings.Repeat("ü", 129)); worker != 0 || e != api.ErrItem {
		t.Errorf("Worker of 258 bytes is %d, %d", worker, e)
	}
	w.stands(t, 0, minTime, minTime, minTime)
}

// P15.4: a copy and its origin go on apart.
func TestCopy(t *testing.T) {
	a := fromTwin(t, job(), 2, []int64{7, 3}, 9)
	b := a.copied(t)
	b.same(t)
	a.wants(t, items(mark(1, 5), save()), rose(0, 9, 5), rose(1, 9, 5), saves(0, 10), saves(1, 10))
	b.stands(t, 9, 3, 7, 3)
	b.wants(t, items(mark(1, 4), event("d", 1, 1)), rose(0, 9, 4), rose(1, 9, 4), fell(1, 10, "d", 1, 1))
	a.stands(t, 11, 5, 7, 5)
	c := b.copied(t)
	b.wants(t, items(mark(0, 9), mark(1, 9)), rose(0, 12, 9), rose(1, 12, 9))
	c.stands(t, 11, 4, 7, 4)
	c.wants(t, items(save()), saves(0, 11), saves(1, 11))
	a.same(t)
	b.same(t)
}

// P15.2 to P15.4: a nil router, and one that no call of the package made.
func TestNothing(t *testing.T) {
	refused, _ := route.New(api.Config{}, 1)
	other, _ := route.From(job(), 2, nil, 0)
	for _, r := range []*route.Router{nil, {}, new(route.Router), refused, other} {
		for _, x := range items(event("a", 3, 1), mark(0, 3), save(), api.Item{Kind: 9}, api.Item{}) {
			if l, e := r.Item(x); l != nil || e != api.ErrNil {
				t.Errorf("Item(%v) of no router is %v, %d", x, l, e)
			}
			if l, n, e := r.Items(x, x); l != nil || n != 0 || e != api.ErrNil {
				t.Errorf("Items(%v, %v) of no router is %v, %d, %d", x, x, l, n, e)
			}
		}
		if l, n, e := r.Items(); l != nil || n != 0 || e != api.ErrNil {
			t.Errorf("Items() of no router is %v, %d, %d", l, n, e)
		}
		for _, key := range []string{"", "d", strings.Repeat("x", 257)} {
			if n, e := r.Worker(key); n != 0 || e != api.ErrNil {
				t.Errorf("Worker(%q) of no router is %d, %d", key, n, e)
			}
		}
		if l := r.Marks(); l != nil || r.Watermark() != 0 || r.Seq() != 0 || r.Copy() != nil {
			t.Errorf("no router tells %v, %d, %d, %v", l, r.Watermark(), r.Seq(), r.Copy())
		}
	}
}
