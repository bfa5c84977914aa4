package keyed_test

import (
	"math/rand"
	"strings"
	"testing"

	"keepsake/api"
	"keepsake/config"
	"keepsake/keyed"
)

func kinds() []api.Config {
	return []api.Config{tumbling(5, 0, false), sliding(5, 0, false), session(5, 0, false)}
}

// wantErrors calls all that have errors, with what is wrong in their order: the call's error is the first one that it has. (0: that is right.)
func wantErrors(t *testing.T, c api.Config, k api.KeyState, w, at int64) {
	t.Helper()
	ofKey := config.Key(c, k)
	var ofMark, ofTime api.Errno
	if w < -1<<62 || w > 1<<62 {
		ofMark = 2
	}
	if at < -1<<62 || at > 1<<62 {
		ofTime = 5
	}
	first := func(l ...api.Errno) api.Errno {
		for _, e := range l {
			if e != 0 {
				return e
			}
		}
		return 0
	}
	l, e := keyed.Falls(c, k, at)
	if want := first(ofKey, ofTime); e != want || e != 0 && l != nil {
		t.Errorf("Falls(%v, %v, %d) is %v, %d, want %d", c, k, at, l, e, want)
	}
	a := event(t, c, k, w, at, 1)
	if want := first(ofKey, ofMark, ofTime); a.e != want || want != 0 && !a.is(answer{e: want}) {
		t.Errorf("Event(%v, %v, %d, %d, 1) is %v, want %d", c, k, w, at, a, want)
	}
	a = advance(t, c, k, w, w)
	if want := first(ofKey, ofMark); a.e != want || want != 0 && !a.is(answer{e: want}) {
		t.Errorf("Advance(%v, %v, %d, %d) is %v, want %d", c, k, w, w, a, want)
	}
	h, ok, e := keyed.Holds(c, k, w)
	if want := first(ofKey, ofMark); e != want || want != 0 && (h != 0 || ok) {
		t.Errorf("Holds(%v, %v, %d) is %d, %t, %d, want %d", c, k, w, h, ok, e, want)
	}
}

// wrongJobs are jobs of each of which one thing may not be.
func wrongJobs(c api.Config) []api.Config {
	var l []api.Config
	for _, set := range []func(c *api.Config){
		func(c *api.Config) { *c = api.Config{} },
		func(c *api.Config) { c.Groups = 0 },
		func(c *api.Config) { c.Groups = api.MaxGroups + 1 },
		func(c *api.Config) { c.Sources = 0 },
		func(c *api.Config) { c.Sources = api.MaxSources + 1 },
		func(c *api.Config) { c.Kind = 0 },
		func(c *api.Config) { c.Kind = 4 },
		func(c *api.Config) { c.Kind = -1 },
		func(c *api.Config) { c.Kind = 1 << 40 },
		func(c *api.Config) { c.Size, c.Gap = 0, 0 },
		func(c *api.Config) { c.Size, c.Gap = -1, -1 },
		func(c *api.Config) { c.Size, c.Gap = api.MaxSpan+1, api.MaxSpan+1 },
		func(c *api.Config) { c.Slide = 11 },
		func(c *api.Config) { c.Slide = -1 },
		func(c *api.Config) { c.Offset = 10 },
		func(c *api.Config) { c.Offset = -1 },
		func(c *api.Config) { c.Late = -1 },
		func(c *api.Config) { c.Late = api.MaxSpan + 1 },
		func(c *api.Config) { c.Early = -1 },
		func(c *api.Config) { c.Early = api.MaxEarly + 1 },
	} {
		x := c
		set(&x)
		l = append(l, x)
	}
	return l
}

// wrongStates are states of each of which one thing is not in order.
func wrongStates() []api.KeyState {
	l := []api.KeyState{
		{Key: strings.Repeat("x", api.MaxKey+1)},
		key(-1), key(most + 1), key(least), key(greatest),
		key(0, one(0, 10, 1, 3), one(0, 10, 1, 3)),
		key(0, one(10, 20, 1, 10), one(0, 10, 1, 3)),
		key(0, one(0, 0, 1, 3)), key(0, one(1, 0, 1, 3)), key(0, one(greatest, least, 1, 3)),
		key(0, one(lowest-1, 0, 1, 3)), key(0, one(0, highest+1, 1, 3)), key(0, one(least, greatest, 1, 3)),
	}
	for _, n := range []int64{-1, most + 1, least, greatest} {
		l = append(l, key(0, win(0, 10, n, 1, 1, 1, 0, 0, 3)), key(0, win(0, 10, 1, 1, 1, 1, n, 0, 3)), key(0, win(0, 10, 1, 1, 1, 1, 0, n, 3)))
		l = append(l, key(0, one(-10, 0, 1, -5), win(0, 10, 1, 1, 1, 1, 0, n, 3)))
	}
	return l
}

// P12.1: each error alone, and two and more at once.
func TestErrorsInTheirOrder(t *testing.T) {
	good := key(0, one(0, 10, 1, 3))
	times := []int64{0, api.MinTime, api.MaxTime, api.MinTime - 1, api.MaxTime + 1, least, greatest}
	for _, c := range kinds() {
		for _, w := range times {
			for _, at := range times {
				wantErrors(t, c, good, w, at)
				wantErrors(t, c, key(0), w, at)
				for _, x := range wrongJobs(c) {
					if config.Check(x) != api.ErrJob {
						t.Fatalf("the job %v may be", x)
					}
					wantErrors(t, x, good, w, at)
					wantErrors(t, x, key(-1), w, at)
				}
				for _, k := range wrongStates() {
					if config.Key(c, k) != api.ErrState {
						t.Fatalf("the state %v is in order", k)
					}
					wantErrors(t, c, k, w, at)
				}
			}
		}
	}
	// Sessions that overlap are none; other windows may.
	both := key(0, one(0, 10, 1, 3), one(5, 15, 1, 7))
	for _, c := range kinds() {
		wantErrors(t, c, both, 0, 0)
		wantErrors(t, c, both, api.MaxTime+1, api.MaxTime+1)
	}
	if _, _, _, e := keyed.Event(session(0, 0, false), both, 0, 0, 0); e != api.ErrState {
		t.Errorf("Event of sessions that overlap: %d", e)
	}
	if _, _, _, e := keyed.Event(sliding(0, 0, false), both, 0, 0, 0); e != api.OK {
		t.Errorf("Event of sliding windows that overlap: %d", e)
	}
}

// The chapter's errors by their numbers, so that nothing above hangs on config alone.
func TestErrorsByNumber(t *testing.T) {
	T, none, bad := tumbling(5, 0, false), api.Config{}, key(-1)
	for _, r := range []struct {
		c     api.Config
		k     api.KeyState
		w, at int64
		want  api.Errno
	}{
		{none, bad, api.MaxTime + 1, api.MaxTime + 1, api.ErrJob},
		{none, bad, 0, 0, api.ErrJob},
		{none, key(0), api.MaxTime + 1, 0, api.ErrJob},
		{none, key(0), 0, api.MaxTime + 1, api.ErrJob},
		{none, key(0), 0, 0, api.ErrJob},
		{T, bad, api.MaxTime + 1, api.MaxTime + 1, api.ErrState},
		{T, bad, api.MaxTime + 1, 0, api.ErrState},
		{T, bad, 0, api.MaxTime + 1, api.ErrState},
		{T, bad, 0, 0, api.ErrState},
		{T, key(0), api.MaxTime + 1, api.MaxTime + 1, api.ErrArg},
		{T, key(0), api.MinTime - 1, 0, api.ErrArg},
		{T, key(0), 0, api.MinTime - 1, api.ErrItem},
		{T, key(0), api.MaxTime, api.MaxTime + 1, api.ErrItem},
	} {
		if a := event(t, r.c, r.k, r.w, r.at, 1); !a.is(answer{e: r.want}) {
			t.Errorf("Event(%v, %v, %d, %d, 1) is %v, want %d", r.c, r.k, r.w, r.at, a, r.want)
		}
	}
}

// Advance: both watermarks are times, and the second is not below the first.
func TestAdvanceErrors(t *testing.T) {
	T, k := tumbling(5, 0, false), key(0, one(0, 10, 1, 3))
	for _, r := range []struct {
		w0, w1 int64
		want   api.Errno
	}{
		{0, 0, api.OK}, {0, 1, api.OK}, {1, 0, api.ErrArg}, {5, 4, api.ErrArg}, {-4, -5, api.ErrArg},
		{api.MinTime, api.MinTime, api.OK}, {api.MinTime, api.MaxTime, api.OK}, {api.MaxTime, api.MaxTime, api.OK},
		{api.MaxTime, api.MinTime, api.ErrArg}, {api.MaxTime, api.MaxTime - 1, api.ErrArg}, {api.MinTime + 1, api.MinTime, api.ErrArg},
		{api.MinTime - 1, 0, api.ErrArg}, {api.MinTime - 1, api.MinTime - 1, api.ErrArg}, {0, api.MaxTime + 1, api.ErrArg}, {api.MaxTime + 1, api.MaxTime + 1, api.ErrArg},
		{api.MinTime - 1, api.MaxTime + 1, api.ErrArg}, {api.MaxTime + 1, 0, api.ErrArg}, {0, api.MinTime - 1, api.ErrArg}, {least, greatest, api.ErrArg}, {greatest, least, api.ErrArg},
	} {
		a := advance(t, T, k, r.w0, r.w1)
		if a.e != r.want || a.e != api.OK && !a.is(answer{e: r.want}) {
			t.Errorf("Advance(.., %d, %d) is %v, want %d", r.w0, r.w1, a, r.want)
		}
		if a := advance(t, T, key(-1), r.w0, r.w1); !a.is(answer{e: api.ErrState}) {
			t.Errorf("Advance(a state that is not in order, %d, %d) is %v", r.w0, r.w1, a)
		}
		if a := advance(t, api.Config{}, key(-1), r.w0, r.w1); !a.is(answer{e: api.ErrJob}) {
			t.Errorf("Advance(no job, %d, %d) is %v", r.w0, r.w1, a)
		}
	}
}

// Numbers of all sizes, wherever: no call panics, and each error is the first that applies.
func TestErrorsOfAny(t *testing.T) {
	r := rand.New(rand.NewSource(1))
	for i := range 40000 {
		wide := i%2 == 0
		c := anyJob(r, wide)
		k := anyState(r, c, wide)
		if r.Intn(4) == 0 {
			l := wrongJobs(c)
			c = l[r.Intn(len(l))]
		}
		if r.Intn(4) == 0 {
			l := wrongStates()
			k = l[r.Intn(len(l))]
		}
		wantErrors(t, c, k, anyNumber(r), anyNumber(r))
		if t.Failed() {
			return
		}
	}
}
