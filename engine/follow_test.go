package engine_test

import (
	"math/rand"
	"slices"
	"strings"
	"testing"

	"keepsake/api"
	"keepsake/engine"
	"keepsake/plain"
)

// Drawn rows of calls against the model, with wrong ones between them, on an engine and on its copies.
func TestAnyCalls(t *testing.T) {
	r := rand.New(rand.NewSource(2))
	kinds, busy, done := [4]int{}, 0, 0
	for i := range 400 {
		d := newDrawer(r, i%3 == 0)
		family := []twin{d.twin(t)}
		for range 50 {
			w := family[r.Intn(len(family))]
			switch n := r.Intn(24); {
			case n < 9:
				w.feed(t, d.items(r.Intn(6))...)
			case n == 9:
				w.feed(t, append(d.items(r.Intn(4)), d.wrongItem(), d.item())...)
			case n < 16:
				w.picks(t, d.picks(r.Intn(9))...)
			case n < 21:
				w.step(t, d.pick())
			case n < 22:
				w.drain(t)
			case len(family) < 4:
				family = append(family, w.copied(t))
			}
			for _, w := range family {
				w.same(t)
			}
			if _, e := w.want.state(); e == api.OK {
				done++
			} else {
				busy++
			}
		}
		for _, w := range family {
			for _, x := range w.want.told {
				kinds[x.Pane.Kind]++
			}
		}
	}
	if slices.Min(kinds[1:]) < 1000 || busy < 3000 || done < 1000 {
		t.Errorf("what is drawn is too even: panes %v, states that are busy %d, and others %d", kinds, busy, done)
	}
}

// plainOf is a plain job that stands at a state, and has done items.
func plainOf(t *testing.T, s api.State, l []api.Item) *plain.Job {
	t.Helper()
	j, e := plain.From(s)
	if e != api.OK {
		t.Fatalf("From(%+v) is %d", s, e)
	}
	if _, e := j.Items(l...); e != api.OK {
		t.Fatalf("Items(%+v) is %d", l, e)
	}
	return j
}

// ofKeys are panes by their keys.
func ofKeys(l []api.Pane) map[string][]api.Pane {
	all := map[string][]api.Pane{}
	for _, p := range l {
		all[p.Key] = append(all[p.Key], p)
	}
	return all
}

// begins holds what an engine told so far of each key against a plain job that has done all items.
func begins(t *testing.T, e *engine.Engine, names []string, want map[string][]api.Pane) {
	t.Helper()
	for _, name := range names {
		got, all := e.Panes(name), want[name]
		if len(got) > len(all) || !slices.Equal(got, all[:len(got)]) {
			t.Fatalf("of %q there are\n%v, no beginning of\n%v", name, got, all)
		}
	}
}

// likePlain holds an engine that has done all items against a plain job that has, too.
func likePlain(t *testing.T, e *engine.Engine, names []string, j *plain.Job) {
	t.Helper()
	want := ofKeys(j.Panes())
	for _, name := range names {
		if got := e.Panes(name); !slices.Equal(got, want[name]) {
			t.Fatalf("%d workers: of %q there are\n%v, want\n%v", e.Workers(), name, got, want[name])
		}
	}
	if n := len(e.Told()); n != len(j.Panes()) {
		t.Fatalf("%d workers: %d panes are told, want %d", e.Workers(), n, len(j.Panes()))
	}
	s, err := e.State()
	if err != api.OK || !sameState(s, j.State()) || e.Out() != j.Out() || e.Fed() != j.Done() {
		t.Fatalf("%d workers: State, Out, Fed are\n%+v, %d, %d, want\n%+v, %d, %d", e.Workers(), s, e.Out(), e.Fed(), j.State(), j.Out(), j.Done())
	}
	saved := j.Saved()
	if e.Saves() != len(saved) {
		t.Fatalf("%d workers: Saves are %d, want %d", e.Workers(), e.Saves(), len(saved))
	}
	for n, want := range saved {
		if got, err := e.Saved(n); err != api.OK || !sameState(got, want) {
			t.Fatalf("%d workers: Saved(%d) is\n%+v, %d, want\n%+v", e.Workers(), n, got, err, want)
		}
	}
}

// rises holds what was told against the items' numbers: of one worker they never fall.
func rises(t *testing.T, e *engine.Engine) {
	t.Helper()
	last := map[int]int{}
	for _, x := range e.Told() {
		if x.Item < last[x.Worker] || x.Item >= e.Fed() || x.Worker < 0 || x.Worker >= e.Workers() {
			t.Fatalf("the worker %d tells by the item %d, behind %d", x.Worker, x.Item, last[x.Worker])
		}
		last[x.Worker] = x.Item
	}
}

// byKey are the panes that were told and the items that told them, by keys and then in their order; who told them is left out.
func byKey(e *engine.Engine) []api.Told {
	l := e.Told()
	for i := range l {
		l[i].Worker = 0
	}
	slices.SortStableFunc(l, func(a, b api.Told) int { return strings.Compare(a.Pane.Key, b.Pane.Key) })
	return l
}

// P17.8, P0.1: the same items, under whatever picks and numbers of workers, fed at once or bit by bit, come to what a plain job tells; ahead of that each key's panes are a beginning of it.
func TestWhateverThePicks(t *testing.T) {
	r := rand.New(rand.NewSource(3))
	told, ahead := 0, 0
	for i := range 250 {
		d := newDrawer(r, i%3 == 0)
		s := begin(d.c)
		if i%4 == 0 {
			s = d.anyState()
		}
		l := d.items(80)
		j := plainOf(t, s, l)
		want := ofKeys(j.Panes())
		told += len(j.Panes())
		var first []api.Told
		for _, workers := range []int{1, d.workers, min(d.c.Groups, 4), min(d.c.Groups, 9)} {
			d.workers = workers
			e, _ := engine.From(s, workers)
			out := e.Out()
			for rest := l; len(rest) > 0; {
				n := min(r.Intn(30), len(rest))
				e.Feed(rest[:n]...)
				rest = rest[n:]
				for range r.Intn(20) {
					e.Picks(d.picks(r.Intn(5))...)
					begins(t, e, d.names, want)
					rises(t, e)
					// P0.8: it never falls, wherever the workers stand.
					if e.Out() < out || e.Out() > j.Mark() {
						t.Fatalf("Out is %d, which was %d", e.Out(), out)
					}
					out = e.Out()
				}
			}
			ahead += len(j.Panes()) - len(e.Told())
			e.Drain()
			likePlain(t, e, d.names, j)
			rises(t, e)
			if first == nil {
				first = byKey(e)
			}
			if got := byKey(e); !slices.Equal(got, first) {
				t.Fatalf("%d workers tell\n%v, want\n%v", workers, got, first)
			}
		}
	}
	if told < 3000 || ahead < 3000 {
		t.Errorf("what is drawn is too even: %d panes, %d of them by Drain", told, ahead)
	}
}

// With one worker what is told is a plain job's, in its order.
func TestOneWorker(t *testing.T) {
	r := rand.New(rand.NewSource(4))
	for i := range 200 {
		d := newDrawer(r, i%3 == 0)
		l := d.items(80)
		e, _ := engine.New(d.c, 1)
		j := plainOf(t, begin(d.c), nil)
		for n, x := range l {
			e.Feed(x)
			was := len(e.Told())
			want, _ := j.Item(x)
			if e.Picks(0) != 1 {
				t.Fatalf("there is nothing to do of %+v", x)
			}
			var all []api.Told
			for _, p := range want {
				all = append(all, by(0, n, p))
			}
			if got := e.Told()[was:]; !slices.Equal(got, all) {
				t.Fatalf("%+v tells\n%v, want\n%v", x, got, all)
			}
		}
		likePlain(t, e, d.names, j)
	}
}

// P17.8: from a State, and from a save, with another number of workers each key's panes go on as they would have, wherever the items are cut.
func TestOtherNumbersOfWorkers(t *testing.T) {
	r := rand.New(rand.NewSource(5))
	for i := range 150 {
		d := newDrawer(r, i%3 == 0)
		l := d.items(60)
		cut := r.Intn(len(l) + 1)
		first, rest := slices.Concat(l[:cut], items(save())), l[cut:]
		whole := plainOf(t, begin(d.c), slices.Concat(first, rest))

		one, _ := engine.New(d.c, d.workers)
		one.Feed(first...)
		one.Drain()
		stands, e := one.State()
		if e != api.OK {
			t.Fatalf("State is %d", e)
		}
		at := one.Saves() - 1
		one.Feed(rest...)
		one.Picks(d.picks(100)...)
		if saved, e := one.Saved(at); e != api.OK || !sameState(saved, stands) {
			t.Fatalf("Saved(%d) is\n%+v, %d, want\n%+v", at, saved, e, stands)
		}
		ahead := plainOf(t, begin(d.c), first)
		for workers := 1; workers <= min(d.c.Groups, 7); workers++ {
			goesOn(t, d, stands, workers, rest, ahead, whole)
		}
	}
}

// goesOn holds an engine that goes on from a state with the rest of the items against the plain jobs that have done all ahead of them, and the whole.
func goesOn(t *testing.T, d *drawer, s api.State, workers int, rest []api.Item, ahead, whole *plain.Job) {
	t.Helper()
	other, e := engine.From(s, workers)
	if e != api.OK {
		t.Fatalf("From(%+v, %d) is %d", s, workers, e)
	}
	d.workers = workers
	other.Feed(rest...)
	other.Picks(d.picks(100)...)
	other.Drain()
	likePlain(t, other, d.names, plainOf(t, s, rest))
	if now, _ := other.State(); !sameState(now, whole.State()) || other.Out() != whole.Out() {
		t.Fatalf("%d workers come to\n%+v, want\n%+v", workers, now, whole.State())
	}
	was, want := ofKeys(ahead.Panes()), ofKeys(whole.Panes())
	for _, name := range d.names {
		if got := slices.Concat(was[name], other.Panes(name)); !slices.Equal(got, want[name]) {
			t.Fatalf("%d workers: of %q there are\n%v, want\n%v", workers, name, got, want[name])
		}
	}
}

// However items are cut into calls of Feed, and steps into calls of Picks, they do the same.
func TestCalls(t *testing.T) {
	r := rand.New(rand.NewSource(6))
	for i := range 100 {
		d := newDrawer(r, i%3 == 0)
		l, picks := d.items(60), d.picks(200)
		whole, bits := newTwin(t, d.c, d.workers), newTwin(t, d.c, d.workers)
		whole.feed(t, l...)
		for _, x := range l {
			bits.feed(t, x)
		}
		done := whole.picks(t, picks...)
		for _, n := range picks {
			if ok, _ := bits.e.Step(n); ok {
				done--
			}
			bits.want.step(n)
		}
		if done != 0 || !slices.Equal(whole.e.Told(), bits.e.Told()) {
			t.Fatalf("Picks tell\n%v, Steps\n%v", whole.e.Told(), bits.e.Told())
		}
		whole.same(t)
		bits.same(t)
	}
}

// A great many items, marks and saves among them, for several workers: it comes to an end soon, and to what it must.
func TestManyItems(t *testing.T) {
	const n = 40000
	c := example()
	c.Groups = 64
	name := func(i int64) string { return string([]byte{byte('a' + i%16), byte(i % 16 * 7)}) }
	e, _ := engine.New(c, 16)
	for i := range int64(n) {
		e.Feed(event(name(i), i, 1), mark(i-5))
		if i%4000 == 0 {
			e.Feed(save())
		}
		e.Picks(int(i%16), int(i%5))
	}
	e.Drain()
	counted := int64(0)
	for _, x := range e.Told() {
		counted += x.Pane.Count
	}
	// The windows from n - 7 on are not due yet, and hold back what stands in them.
	if e.Saves() != 10 || e.Out() != n-7 || counted != n-7 {
		t.Errorf("Saves are %d, Out is %d, %d events are told", e.Saves(), e.Out(), counted)
	}
}

// FuzzCalls takes calls out of bytes, three a call, on an engine and on its copies, and holds what they do against the model.
func FuzzCalls(f *testing.F) {
	f.Add(byte(0), byte(0), byte(10), byte(5), byte(1), int64(0), []byte{0, 3, 7, 8, 12, 1, 4, 0, 0, 2, 13, 0, 3, 0, 0, 0, 4, 2, 4, 1, 7, 6, 0, 0, 2, 18, 0, 7, 0, 0})
	f.Add(byte(1), byte(5), byte(10), byte(0), byte(3), int64(-1<<62), []byte{0, 3, 7, 5, 0, 0, 32, 12, 1, 2, 10, 0, 3, 0, 0, 34, 10, 1, 6, 0, 0, 4, 2, 9, 2, 90, 2, 7, 0, 0})
	f.Add(byte(2), byte(3), byte(30), byte(9), byte(2), int64(1<<62-90), []byte{0, 3, 7, 0, 90, 1, 8, 12, 1, 3, 0, 0, 2, 40, 0, 4, 1, 2, 5, 0, 40, 2, 60, 0, 39, 0, 1})
	f.Fuzz(func(t *testing.T, kind, way, size, lateness, of byte, base int64, b []byte) {
		c := api.Config{Groups: 1 + int(of>>4), Sources: 1 + int(way&1), Kind: api.Kind(1 + kind%3), Size: 1 + int64(size), Late: int64(lateness), Early: int(way >> 1 & 3), Discard: way>>3&1 == 1}
		switch c.Kind {
		case api.Sliding:
			c.Slide = (c.Size + 7) / 8
		case api.Session:
			c.Size, c.Gap = 0, c.Size
		}
		b = b[:min(len(b), 240)] // all is asked behind each call
		family := []twin{newTwin(t, c, 1+int(of&15)%c.Groups)}
		for ; len(b) > 2; b = b[3:] {
			w := family[int(b[0]>>5)%len(family)]
			at := base + int64(int8(b[1]))
			switch b[0] & 7 {
			case 2:
				w.feed(t, markOf(int(b[2]&3), at))
			case 3:
				w.feed(t, save(), event(string(b[2]&3+'a'), at, 1))
			case 4:
				w.picks(t, int(b[1])%18-1, int(b[2])%18-1, int(b[1]&3))
			case 5:
				if len(family) < 4 {
					family = append(family, w.copied(t))
				}
			case 6:
				w.step(t, int(b[1]&15))
			case 7:
				w.drain(t)
				s, e := w.e.State()
				if e != api.OK {
					t.Fatalf("behind Drain State is %d", e)
				}
				fromTwin(t, s, 1+int(b[1])%c.Groups).same(t)
			default:
				w.feed(t, event(string(b[0]>>3&3+'a'), at, int64(int8(b[2]))<<56))
			}
			w.same(t)
		}
		for _, w := range family {
			w.drain(t)
		}
		for _, w := range family {
			w.same(t)
			likePlain(t, w.e, []string{"a", "b", "c", "d"}, plainOf(t, begin(c), w.want.items))
		}
	})
}
