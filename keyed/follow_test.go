package keyed_test

import (
	"math/rand"
	"slices"
	"testing"

	"keepsake/api"
	"keepsake/config"
	"keepsake/keyed"
)

// wantInOrder looks whether a state is in order for the job and still of its key.
func wantInOrder(t *testing.T, c api.Config, k api.KeyState, name string) {
	t.Helper()
	if e := config.Key(c, k); e != api.OK || k.Key != name {
		t.Fatalf("%v, of %v and the key %q, is not in order: %d", k, c, name, e)
	}
}

// find is the window of that span in a list; a zero one, if there is none.
func find(l []api.Win, s api.Span) api.Win {
	for _, x := range l {
		if x.Span == s {
			return x
		}
	}
	return api.Win{}
}

// P12.6: what both answer is in order, and its key is the same.
func TestAnswersAreInOrder(t *testing.T) {
	r := rand.New(rand.NewSource(6))
	for i := range 60000 {
		wide := i%2 == 0
		c := anyJob(r, wide)
		k := anyState(r, c, wide)
		a := event(t, c, k, anyTime(r, wide), anyTime(r, wide), anyNumber(r))
		wantInOrder(t, c, a.k, k.Key)
		w0, w1 := anyTime(r, wide), anyTime(r, wide)
		b := advance(t, c, k, min(w0, w1), max(w0, w1))
		wantInOrder(t, c, b.k, k.Key)
		for _, p := range append(a.panes, b.panes...) {
			if p.Key != k.Key {
				t.Fatalf("a pane of the key %q is %v", k.Key, p)
			}
		}
	}
}

// P12.6: in two steps Advance tells what it tells in one, and makes the same state.
func TestAdvanceInTwoSteps(t *testing.T) {
	r := rand.New(rand.NewSource(7))
	tells := 0
	for i := range 60000 {
		wide := i%2 == 0
		c := anyJob(r, wide)
		k := anyState(r, c, wide)
		w := []int64{anyTime(r, wide), anyTime(r, wide), anyTime(r, wide)}
		// Just the Ends of windows, and where they are expired, as often as not.
		if len(k.Windows) > 0 && r.Intn(2) == 0 {
			x := k.Windows[r.Intn(len(k.Windows))]
			w[1] = min(max(x.End+c.Late*r.Int63n(2), api.MinTime), api.MaxTime)
		}
		slices.Sort(w)
		first := advance(t, c, k, w[0], w[1])
		second := advance(t, c, first.k, w[1], w[2])
		whole := advance(t, c, k, w[0], w[2])
		both := answer{k: second.k, panes: append(first.panes, second.panes...)}
		if !both.is(whole) || first.e != api.OK {
			t.Fatalf("Advance(%v, %v, ..) by %v is\n%v, in one step\n%v", c, k, w, both, whole)
		}
		tells += min(len(first.panes), len(second.panes))
	}
	if tells < 100 {
		t.Errorf("what is drawn is too even: %d times both steps told", tells)
	}
}

// P12.6: an event that is dropped turns nothing but Dropped; one that is not has gone into each window that is not expired, or was told with it.
func TestEventIsInItsWindows(t *testing.T) {
	r := rand.New(rand.NewSource(8))
	for i := range 60000 {
		wide := i%2 == 0
		c := anyJob(r, wide)
		k, w, at := anyState(r, c, wide), anyTime(r, wide), anyTime(r, wide)
		a := event(t, c, k, w, at, 1)
		if a.dropped {
			if a.k.Dropped != min(k.Dropped+1, most) || !slices.Equal(a.k.Windows, k.Windows) || len(a.panes) != 0 {
				t.Fatalf("Event(%v, %v, %d, %d, 1) drops the event, and is %v", c, k, w, at, a)
			}
			continue
		}
		if a.k.Dropped != k.Dropped {
			t.Fatalf("Event(%v, %v, %d, %d, 1) does not drop the event, and is %v", c, k, w, at, a)
		}
		l, _ := keyed.Falls(c, k, at)
		for _, s := range l {
			var was int64
			for _, x := range k.Windows {
				if x.Span == s || c.Kind == api.Session && overlaps(x.Span, span(at, at+c.Gap)) {
					was = countsOf(was, x.Count)
				}
			}
			count := find(a.k.Windows, s).Count
			for _, p := range a.panes {
				if p.Span == s {
					count = p.Count
				}
			}
			if expired := expiredOf(c, s, w); !expired && count != min(was+1, most) || expired && find(a.k.Windows, s) != find(k.Windows, s) {
				t.Fatalf("Event(%v, %v, %d, %d, 1): [%d, %d) counted %d, and counts %d", c, k, w, at, s.Start, s.End, was, count)
			}
		}
		touched := 0
		for _, x := range a.k.Windows {
			if x != find(k.Windows, x.Span) {
				touched++
				if !slices.Contains(l, x.Span) {
					t.Fatalf("Event(%v, %v, %d, %d, 1) turns %v, into which it does not fall", c, k, w, at, x)
				}
			}
		}
		if touched > api.MaxSlices || len(a.panes) > touched {
			t.Fatalf("Event(%v, %v, %d, %d, 1) turns %d windows, and tells %v", c, k, w, at, touched, a.panes)
		}
	}
}

// life is what came of a key in a play: events and rises of the watermark in any order, from no windows on.
type life struct {
	c     api.Config
	k     api.KeyState
	w     int64
	panes []api.Pane
}

// goOn draws an event near the watermark, or a rise, and does it; it answers whether an event was taken.
func (x *life) goOn(t *testing.T, r *rand.Rand, v int64) bool {
	t.Helper()
	var a answer
	if r.Intn(4) == 0 {
		to := x.w + r.Int63n(8)
		a = advance(t, x.c, x.k, x.w, to)
		x.w = to
		a.dropped = true
	} else {
		a = event(t, x.c, x.k, x.w, x.w+r.Int63n(40)-25, v)
	}
	if a.e != api.OK {
		t.Fatalf("%v at %d: %d", x, x.w, a.e)
	}
	wantInOrder(t, x.c, a.k, x.k.Key)
	x.k, x.panes = a.k, append(x.panes, a.panes...)
	return !a.dropped
}

// P12.6: of a job that is not Session, and without Discard, the Counts of a window's panes never fall; and each pane of it is the next one.
func TestCountsNeverFall(t *testing.T) {
	r := rand.New(rand.NewSource(9))
	for range 3000 {
		c := anyJob(r, false)
		for c.Kind == api.Session {
			c = anyJob(r, false)
		}
		c.Discard = false
		x := life{c: c, k: api.KeyState{Key: "k"}}
		for range 80 {
			x.goOn(t, r, anyNumber(r))
		}
		last := map[api.Span]api.Pane{}
		for _, p := range x.panes {
			was, had := last[p.Span]
			if p.Count < was.Count || had && p.Nth != was.Nth+1 || !had && p.Nth != 0 || p.Count < 1 {
				t.Fatalf("of %v the pane %v comes behind %v", c, p, was)
			}
			last[p.Span] = p
		}
	}
}

// Of each key: what was taken and what was dropped are all; with Discard, and windows that lie apart, each event that was taken is told once or stands in a window.
func TestNothingIsLost(t *testing.T) {
	r := rand.New(rand.NewSource(10))
	for range 3000 {
		c := anyJob(r, false)
		for c.Kind == api.Sliding {
			c = anyJob(r, false)
		}
		c.Discard = true
		x := life{c: c, k: api.KeyState{Key: "k"}}
		taken, events := int64(0), int64(0)
		for range 80 {
			was := x.k.Dropped
			if x.goOn(t, r, 1) {
				taken++
				events++
			}
			events += x.k.Dropped - was
		}
		sum := int64(0)
		for _, p := range x.panes {
			sum += p.Count
		}
		for _, w := range x.k.Windows {
			sum += w.Count
		}
		if sum != taken || events != taken+x.k.Dropped {
			t.Fatalf("of %v %d events were taken and %d dropped of %d: %d are told or stand in %v", c, taken, x.k.Dropped, events, sum, x.k)
		}
	}
}

// What a key holds back, and the watermark, never fall together.
func TestWhatIsHeldBackNeverFalls(t *testing.T) {
	r := rand.New(rand.NewSource(11))
	for range 3000 {
		x := life{c: anyJob(r, false), k: api.KeyState{Key: "k"}}
		out := x.w
		for range 80 {
			told := len(x.panes)
			was := x.k
			x.goOn(t, r, 1)
			for _, p := range x.panes[told:] {
				// A window that tells early or on time does not hold back less than was promised ahead of it.
				if h := find(was.Windows, p.Span); p.Kind == api.OnTime && h.Hold < out {
					t.Fatalf("of %v %v is told, its Hold %d, when %d was promised", x.c, p, h.Hold, out)
				}
			}
			now := x.w
			if h, ok, _ := keyed.Holds(x.c, x.k, x.w); ok {
				now = min(now, h)
			}
			if now < out || now > x.w {
				t.Fatalf("of %v %d is held back, at %d, behind %d", x.c, now, x.w, out)
			}
			out = now
		}
	}
}

// coming is an event.
type coming struct{ at, v int64 }

// shape is a state's windows with their tallies alone.
func shape(k api.KeyState) []api.Win {
	var l []api.Win
	for _, x := range k.Windows {
		l = append(l, api.Win{Span: x.Span, Tally: x.Tally})
	}
	return l
}

// behind is the state behind events at w.
func behind(t *testing.T, c api.Config, k api.KeyState, w int64, l []coming) api.KeyState {
	t.Helper()
	for _, x := range l {
		a := event(t, c, k, w, x.at, x.v)
		if a.e != api.OK || a.dropped {
			t.Fatalf("Event(%v, %v, %d, %d, %d) is %v", c, k, w, x.at, x.v, a)
		}
		k = a.k
	}
	return k
}

// P12.7: where no window is expired, the tallies do not hang on the events' order.
func TestTalliesInAnyOrder(t *testing.T) {
	r := rand.New(rand.NewSource(12))
	due := 0
	for i := range 20000 {
		wide := i%2 == 0
		c := anyJob(r, wide)
		c.Discard = false
		k := anyState(r, c, wide)
		var l []coming
		// The greatest watermark at which no window is expired: one less than the least End and Late.
		top := int64(api.MaxTime)
		for range 1 + r.Intn(7) {
			x := coming{anyTime(r, wide), anyNumber(r)}
			l = append(l, x)
			top = min(top, fallsOf(c, api.KeyState{}, x.at)[0].End+c.Late-1)
		}
		for _, x := range k.Windows {
			top = min(top, x.End+c.Late-1)
		}
		if top < api.MinTime {
			continue
		}
		w := max(top-r.Int63n(4), api.MinTime)
		want := behind(t, c, k, w, l)
		for _, x := range want.Windows {
			if x.End <= w {
				due++
			}
		}
		for range 3 {
			turned := slices.Clone(l)
			r.Shuffle(len(turned), func(i, j int) { turned[i], turned[j] = turned[j], turned[i] })
			if got := behind(t, c, k, w, turned); !slices.Equal(shape(got), shape(want)) {
				t.Fatalf("of %v and %v at %d %v make\n%v, and %v\n%v", c, k, w, l, want, turned, got)
			}
		}
	}
	if due < 1000 {
		t.Errorf("what is drawn is too even: %d windows were due", due)
	}
}

// The chapter's sessions, in all orders.
func TestSessionsInAnyOrder(t *testing.T) {
	c := session(0, 0, false)
	l := []coming{{3, 1}, {9, 2}, {6, 4}}
	for _, o := range [][3]int{{0, 1, 2}, {0, 2, 1}, {1, 0, 2}, {1, 2, 0}, {2, 0, 1}, {2, 1, 0}} {
		wantState(t, behind(t, c, key(0), 0, []coming{l[o[0]], l[o[1]], l[o[2]]}), key(0, win(3, 14, 3, 7, 1, 4, 3, 0, 3)))
	}
}

// overwrite writes over a list, the room behind it included.
func overwrite[E any](l []E) {
	l = l[:cap(l)]
	clear(l)
}

// What is handed in stays, the room behind it included; what is answered is nobody else's.
func TestSharesNothing(t *testing.T) {
	for _, c := range []api.Config{tumbling(50, 1, false), sliding(50, 1, false), session(50, 1, false)} {
		room := []api.Win{one(0, 10, 7, 3), one(10, 20, 7, 13), one(20, 30, 7, 23), one(77, 78, 7, 77), one(88, 89, 7, 88)}
		was := slices.Clone(room)
		k := key(0, room[:3]...)
		for _, at := range []int64{5, 12, -3, 40, 9} { // into what is there, between, ahead, behind
			for _, w := range []int64{0, 25, 100} { // early, late, dropped
				a, b := event(t, c, k, w, at, 1), event(t, c, k, w, at, 1)
				overwrite(a.k.Windows)
				overwrite(a.panes)
				if want := eventOf(c, k, w, at, 1); !slices.Equal(room, was) || !b.is(want) {
					t.Fatalf("writing over what Event(%v, .., %d, %d, 1) answered makes what was handed in %v, another answer %v", c, w, at, room, b)
				}
				overwrite(b.k.Windows)
				x := key(0, slices.Clone(room)[:3]...)
				d := event(t, c, x, w, at, 1)
				overwrite(x.Windows)
				if !d.is(eventOf(c, k, w, at, 1)) {
					t.Fatalf("writing over what was handed in makes what Event(%v, .., %d, %d, 1) answered %v", c, w, at, d)
				}
			}
			a, _ := keyed.Falls(c, k, at)
			b, _ := keyed.Falls(c, k, at)
			overwrite(a)
			if !slices.Equal(b, fallsOf(c, k, at)) || !slices.Equal(room, was) {
				t.Fatalf("writing over what Falls(%v, .., %d) answered makes another answer %v", c, at, b)
			}
		}
		for _, to := range []int64{0, 10, 25, 65, 100} { // nothing, a pane, several, some taken away, all
			a, b := advance(t, c, k, 0, to), advance(t, c, k, 0, to)
			overwrite(a.k.Windows)
			overwrite(a.panes)
			if want := advanceOf(c, k, 0, to); !slices.Equal(room, was) || !b.is(want) {
				t.Fatalf("writing over what Advance(%v, .., 0, %d) answered makes what was handed in %v, another answer %v", c, to, room, b)
			}
			x := key(0, slices.Clone(room)[:3]...)
			d := advance(t, c, x, 0, to)
			overwrite(x.Windows)
			if !d.is(advanceOf(c, k, 0, to)) {
				t.Fatalf("writing over what was handed in makes what Advance(%v, .., 0, %d) answered %v", c, to, d)
			}
		}
	}
}

// fuzzedJob is a job out of numbers: one that may be, but for a kind that may be none.
func fuzzedJob(kind, size, slide, offset, late, early byte, discard bool) api.Config {
	c := api.Config{Groups: 1, Sources: 1, Kind: api.Kind(kind % 5), Late: int64(late), Early: int(early % 8), Discard: discard}
	switch c.Kind {
	case api.Tumbling:
		c.Size = 1 + int64(size)
		c.Offset = int64(offset) % c.Size
	case api.Sliding:
		c.Slide = 1 + int64(slide)
		c.Size = c.Slide + int64(size)%(63*c.Slide+1)
		c.Offset = int64(offset) % c.Slide
	case api.Session:
		c.Gap = 1 + int64(size)
	}
	return c
}

// FuzzSteps plays steps out of bytes, two a step: an event at a time and with a value near the watermark, or a rise of it.
func FuzzSteps(f *testing.F) {
	f.Add(byte(1), byte(9), byte(0), byte(0), byte(5), byte(0), false, int64(0), []byte{3, 7, 9, 254, 129, 12, 4, 9, 129, 3, 4, 1})
	f.Add(byte(2), byte(5), byte(4), byte(0), byte(0), byte(2), true, int64(-7), []byte{7, 1, 100, 1, 129, 10, 5, 5, 90, 90})
	f.Add(byte(3), byte(4), byte(0), byte(0), byte(9), byte(3), true, int64(api.MaxTime-90), []byte{3, 1, 9, 2, 6, 4, 14, 1, 129, 20, 3, 3})
	f.Add(byte(3), byte(255), byte(0), byte(0), byte(0), byte(1), false, int64(api.MinTime), []byte{1, 1, 2, 2, 129, 120})
	f.Fuzz(func(t *testing.T, kind, size, slide, offset, late, early byte, discard bool, w int64, b []byte) {
		c, k := fuzzedJob(kind, size, slide, offset, late, early, discard), key(0)
		for ; len(b) > 1; b = b[2:] {
			var got, want answer
			if b[0]%4 == 1 {
				to := w + int64(int8(b[1]))
				got, want = advance(t, c, k, w, to), advanceOf(c, k, w, to)
				if got.e == api.OK {
					w = to
				}
			} else {
				at, v := w+int64(int8(b[0])), int64(int8(b[1]))<<56
				got, want = event(t, c, k, w, at, v), eventOf(c, k, w, at, v)
			}
			if !got.is(want) {
				t.Fatalf("of %v, %v at %d %v make %v, want %v", c, k, w, b[:2], got, want)
			}
			if got.e != api.OK {
				continue
			}
			k = got.k
			wantInOrder(t, c, k, "k")
			h, ok, e := keyed.Holds(c, k, w)
			if wh, wok, we := holdsOf(c, k, w); h != wh || ok != wok || e != we {
				t.Fatalf("Holds(%v, %v, %d) is %d, %t, %d", c, k, w, h, ok, e)
			}
		}
	})
}
