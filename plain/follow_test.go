package plain_test

import (
	"math/rand"
	"slices"
	"testing"

	"keepsake/api"
	"keepsake/config"
	"keepsake/plain"
)

// Drawn rows of items against the model, one by one and in heaps, with wrong ones between them.
func TestAnyItems(t *testing.T) {
	r := rand.New(rand.NewSource(1))
	kinds, dropped, several := [4]int{}, int64(0), 0
	for i := range 400 {
		d := newDrawer(r, i%3 == 0)
		w := newTwin(t, d.c)
		for range 60 {
			switch r.Intn(10) {
			case 0:
				w.do(t, d.items(r.Intn(12))...)
			case 1:
				w.do(t, append(d.items(r.Intn(5)), d.wrongItem(), d.item())...)
			default:
				l := w.do(t, d.item())
				if len(l) > 1 && l[0].Kind == api.OnTime && l[0].Key != l[len(l)-1].Key {
					several++
				}
			}
			w.same(t)
		}
		for _, p := range w.want.panes {
			kinds[p.Kind]++
		}
		for _, k := range w.want.Keys {
			dropped += k.Dropped
		}
	}
	if slices.Min(kinds[1:]) < 1000 || dropped < 1000 || several < 300 {
		t.Errorf("what is drawn is too even: panes %v, dropped %d, marks that tell of several keys %d", kinds, dropped, several)
	}
}

// The same behind states that are in order, most of which can't be.
func TestAnyItemsBehindAnyState(t *testing.T) {
	r := rand.New(rand.NewSource(2))
	for i := range 1500 {
		d := newDrawer(r, i%3 == 0)
		w := fromTwin(t, d.anyState())
		w.same(t)
		for range 20 {
			w.do(t, d.item())
			w.same(t)
		}
	}
}

// Longer rows of more keys, looked at now and then.
func TestLongRows(t *testing.T) {
	r := rand.New(rand.NewSource(4))
	for i := range 12 {
		d := newDrawer(r, i%3 == 0)
		for range 40 {
			d.names = append(d.names, string([]byte{byte(r.Intn(256)), byte(r.Intn(256))}))
		}
		w := newTwin(t, d.c)
		for range 20 {
			w.do(t, d.items(100)...)
			w.same(t)
		}
	}
}

// cutAt holds a job that does the first items, and one that goes on From its state with the others, against one that does all.
func cutAt(t *testing.T, s api.State, l []api.Item, cut int) {
	t.Helper()
	whole, _ := plain.From(s)
	all, _ := whole.Items(l...)
	one, _ := plain.From(s)
	first, _ := one.Items(l[:cut]...)
	two, e := plain.From(one.State())
	if e != api.OK {
		t.Fatalf("%v: the state behind %d items is refused: %d", l, cut, e)
	}
	if two.Done() != 0 || len(two.Panes()) != 0 || two.Mark() != one.Mark() || two.Out() != one.Out() {
		t.Fatalf("%v: behind %d items it goes on at %d, %v, %d, %d", l, cut, two.Done(), two.Panes(), two.Mark(), two.Out())
	}
	second, _ := two.Items(l[cut:]...)
	if got := slices.Concat(first, second); !slices.Equal(got, all) {
		t.Fatalf("%v, cut at %d, tell\n%v, want\n%v", l, cut, got, all)
	}
	if !sameState(two.State(), whole.State()) || two.Out() != whole.Out() || two.Mark() != whole.Mark() || one.Done()+two.Done() != whole.Done() {
		t.Fatalf("%v, cut at %d, come to\n%+v, want\n%+v", l, cut, two.State(), whole.State())
	}
	if got := slices.Concat(one.Saved(), two.Saved()); !sameStates(got, whole.Saved()) {
		t.Fatalf("%v, cut at %d, save\n%+v, want\n%+v", l, cut, got, whole.Saved())
	}
}

// P14.6: items that are cut in two anywhere.
func TestCutAnywhere(t *testing.T) {
	r := rand.New(rand.NewSource(5))
	for i := range 120 {
		d := newDrawer(r, i%3 == 0)
		s := begin(d.c)
		if i%4 == 0 {
			s = d.anyState()
		}
		l := d.items(40)
		for cut := range len(l) + 1 {
			cutAt(t, s, l, cut)
		}
	}
}

// However items are cut into calls, they do the same; so does Run.
func TestCallsAndRun(t *testing.T) {
	r := rand.New(rand.NewSource(6))
	for i := range 200 {
		d := newDrawer(r, i%3 == 0)
		l := d.items(60)
		w := newTwin(t, d.c)
		for rest := l; len(rest) > 0; {
			n := min(r.Intn(8), len(rest))
			w.do(t, rest[:n]...)
			rest = rest[n:]
		}
		w.same(t)
		if told, s, e := plain.Run(d.c, l...); !slices.Equal(told, w.want.panes) || !sameState(s, w.want.State) || e != api.OK {
			t.Fatalf("Run(%+v, %v) is %v, %+v, %d", d.c, l, told, s, e)
		}
	}
}

// ofKey are the panes of a key.
func ofKey(l []api.Pane, name string) []api.Pane {
	return slices.DeleteFunc(slices.Clone(l), func(p api.Pane) bool { return p.Key != name })
}

// without are the items without the events, or the saves, of which that is said.
func without(l []api.Item, gone func(api.Item) bool) []api.Item {
	return slices.DeleteFunc(slices.Clone(l), gone)
}

// P14.6: what is told of a key, and its state, hang on its own events and on the marks alone: other events are left out, and others put in.
func TestByKeys(t *testing.T) {
	r := rand.New(rand.NewSource(7))
	for i := range 300 {
		d := newDrawer(r, i%3 == 0)
		l := d.items(80)
		whole, _ := plain.New(d.c)
		all, _ := whole.Items(l...)
		for _, name := range d.names {
			own := without(l, func(x api.Item) bool { return x.Kind == api.ItemEvent && x.Key != name })
			var more []api.Item
			for _, x := range own {
				for range r.Intn(3) {
					more = append(more, event("other"+name, x.Time, d.value()), event(name+"x", d.near(25, 15), 1))
				}
				more = append(more, x)
			}
			more = without(more, func(x api.Item) bool { return len(x.Key) > 256 || x.Kind == api.ItemSave })
			for _, other := range [][]api.Item{own, more} {
				j, _ := plain.New(d.c)
				told, e := j.Items(other...)
				if got, want := ofKey(told, name), ofKey(all, name); !slices.Equal(got, want) || e != api.OK {
					t.Fatalf("of the key %q %v tell\n%v, %d, want\n%v", name, other, got, e, want)
				}
				got, group, found := j.Key(name)
				if want, wantGroup, wantFound := whole.Key(name); !sameKey(got, want) || group != wantGroup || found != wantFound {
					t.Fatalf("behind %v the key is\n%+v, want\n%+v", other, got, want)
				}
			}
		}
	}
}

// Saves turn nothing, and are done in the state in which a job without them stands.
func TestSavesTurnNothing(t *testing.T) {
	r := rand.New(rand.NewSource(8))
	for i := range 100 {
		d := newDrawer(r, i%3 == 0)
		l := without(d.items(50), func(x api.Item) bool { return x.Kind == api.ItemSave })
		j, _ := plain.New(d.c)
		k, _ := plain.New(d.c)
		var want []api.State
		for _, x := range l {
			if r.Intn(3) == 0 {
				want = append(want, j.State())
				if told, e := k.Item(save()); len(told) != 0 || e != api.OK {
					t.Fatalf("a save tells %v, %d", told, e)
				}
			}
			a, _ := j.Item(x)
			b, _ := k.Item(x)
			if !slices.Equal(a, b) || !sameState(j.State(), k.State()) || j.Out() != k.Out() {
				t.Fatalf("%v tells %v and, with saves, %v", x, a, b)
			}
		}
		if got := k.Saved(); !sameStates(got, want) || k.Done() != j.Done()+len(want) || len(j.Saved()) != 0 {
			t.Fatalf("Saved are\n%+v, want\n%+v", got, want)
		}
	}
}

// P14.6, P0.8: the outward mark never falls, and is at most Mark; the watermark and each source's mark never fall; what tells early or on time holds back no less than was promised. A state of New is in order.
func TestHeldBack(t *testing.T) {
	r := rand.New(rand.NewSource(9))
	tells := [4]int{}
	for i := range 400 {
		d := newDrawer(r, i%3 == 0)
		j, _ := plain.New(d.c)
		for range 60 {
			out, was := j.Out(), j.State()
			x := d.item()
			told, _ := j.Item(x)
			s := j.State()
			if e := config.State(s); e != api.OK {
				t.Fatalf("behind %v %+v is not in order: %d", x, s, e)
			}
			if j.Out() < out || j.Out() > j.Mark() || j.Mark() != slices.Min(s.Marks) {
				t.Fatalf("behind %v Out is %d, which was %d, Mark %d, the marks %v", x, j.Out(), out, j.Mark(), s.Marks)
			}
			for n, m := range s.Marks {
				if m < was.Marks[n] {
					t.Fatalf("behind %v the mark of %d falls from %d to %d", x, n, was.Marks[n], m)
				}
			}
			for _, p := range told {
				if h, found := holdOf(p, s, was); p.Kind != api.Late && (!found || h < out) {
					t.Fatalf("%v tells %v, whose Hold is %d, when %d was promised", x, p, h, out)
				}
				tells[p.Kind]++
			}
		}
	}
	if slices.Min(tells[1:]) < 300 {
		t.Errorf("what is drawn is too even: panes %v", tells)
	}
}

// holdOf is the Hold of the window that tells a pane: in the first state that has it. (A mark does not turn it, but may take the window away.)
func holdOf(p api.Pane, states ...api.State) (int64, bool) {
	for _, s := range states {
		for _, k := range s.Keys {
			for _, x := range k.Windows {
				if k.Key == p.Key && x.Span == p.Span {
					return x.Hold, true
				}
			}
		}
	}
	return 0, false
}

// The outward mark never falls behind states that can't be, either.
func TestOutNeverFalls(t *testing.T) {
	r := rand.New(rand.NewSource(10))
	for i := range 1000 {
		d := newDrawer(r, i%3 == 0)
		j, _ := plain.From(d.anyState())
		for range 30 {
			out := j.Out()
			x := d.item()
			j.Item(x)
			if j.Out() < out || j.Out() > j.Mark() {
				t.Fatalf("behind %v Out is %d, which was %d, Mark is %d", x, j.Out(), out, j.Mark())
			}
		}
	}
}

// P14.6: without Discard and Session the panes of one window have Nth 0, 1, 2, .. and Counts that never fall; P0.7: each of them counts just the events that fell into its window ahead of it, and a window tells one pane on time.
func TestPanesOfAWindow(t *testing.T) {
	type window struct {
		key string
		api.Span
	}
	r := rand.New(rand.NewSource(11))
	told := 0
	for i := range 300 {
		d := newDrawer(r, i%3 == 0)
		for d.c.Kind == api.Session {
			d = newDrawer(r, i%3 == 0)
		}
		d.c.Discard = false
		j, _ := plain.New(d.c)
		var events []api.Item
		last, onTime := map[window]api.Pane{}, map[window]int{}
		for range 80 {
			x := d.item()
			if x.Kind == api.ItemEvent {
				events = append(events, x)
			}
			l, _ := j.Item(x)
			for _, p := range l {
				at := window{p.Key, p.Span}
				was, had := last[at]
				if had && (p.Nth != was.Nth+1 || p.Count < was.Count) || !had && p.Nth != 0 {
					t.Fatalf("%v comes behind %v", p, was)
				}
				if want := tallyOf(events, p); p.Tally != want {
					t.Fatalf("%v is told, when its events are %v", p, want)
				}
				if p.Kind == api.OnTime {
					onTime[at]++
				}
				if onTime[at] > 1 || p.Kind == api.Late && p.End > j.Mark() || p.Kind == api.Early && (p.End <= j.Mark() || onTime[at] > 0) {
					t.Fatalf("%v comes behind %v, at %d", p, was, j.Mark())
				}
				last[at] = p
				told++
			}
		}
	}
	if told < 3000 {
		t.Errorf("what is drawn is too even: %d panes", told)
	}
}

// tallyOf is the tally of the events that lie in a pane's window.
func tallyOf(events []api.Item, p api.Pane) api.Tally {
	var all api.Tally
	for _, x := range events {
		if x.Key == p.Key && p.Start <= x.Time && x.Time < p.End {
			all = both(all, tally(1, x.Value, x.Value, x.Value))
		}
	}
	return all
}

// P0.7: the events of a key that were taken and those that were dropped are all: with Discard, and windows that lie apart, each one that was taken is told once or stands in a window.
func TestNothingIsLost(t *testing.T) {
	r := rand.New(rand.NewSource(12))
	dropped := int64(0)
	for i := range 400 {
		d := newDrawer(r, i%3 == 0)
		for d.c.Kind == api.Sliding {
			d = newDrawer(r, i%3 == 0)
		}
		d.c.Discard = true
		l := d.items(80)
		told, s, _ := plain.Run(d.c, l...)
		for _, name := range d.names {
			events := int64(0)
			for _, x := range l {
				if x.Kind == api.ItemEvent && x.Key == name {
					events++
				}
			}
			for _, p := range ofKey(told, name) {
				events -= p.Count
			}
			for _, k := range s.Keys {
				if k.Key == name {
					events -= k.Dropped
					dropped += k.Dropped
					for _, x := range k.Windows {
						events -= x.Count
					}
				}
			}
			if events != 0 {
				t.Fatalf("of %+v, the key %q, %d events are lost: %v", d.c, name, events, l)
			}
		}
	}
	if dropped < 300 {
		t.Errorf("what is drawn is too even: %d were dropped", dropped)
	}
}

// A great many keys and items, each behind the other: it comes to an end soon, and to what it must.
func TestManyItems(t *testing.T) {
	const keys, rounds = 500, 40
	var l []api.Item
	for n := range int64(rounds) {
		for i := range int64(keys) {
			l = append(l, event(string([]byte{byte(i >> 8), byte(i)}), n*10+3+i%10, i))
		}
		l = append(l, mark(n*10+13))
	}
	told, s, e := plain.Run(example(), l...)
	if len(told) != keys*rounds || len(s.Keys) != keys || e != api.OK {
		t.Fatalf("%d panes, %d keys, %d", len(told), len(s.Keys), e)
	}
	for i, p := range told {
		n, v := int64(i/keys), int64(i%keys)
		if want := pane(string([]byte{byte(v >> 8), byte(v)}), n*10+3, n*10+13, api.OnTime, 0, 1, v, v, v); p != want {
			t.Fatalf("the pane %d is %v, want %v", i, p, want)
		}
	}
}

// FuzzItems plays items out of bytes, three an item, on a job and on its copies, and holds what they tell against the model.
func FuzzItems(f *testing.F) {
	f.Add(byte(1), byte(9), byte(0), byte(3), byte(5), byte(0), false, int64(0), []byte{0, 3, 5, 0, 12, 254, 2, 13, 0, 0, 4, 9, 2, 18, 0, 0, 4, 1})
	f.Add(byte(2), byte(5), byte(4), byte(0), byte(0), byte(2), true, int64(-7), []byte{0, 7, 1, 4, 7, 1, 2, 10, 0, 3, 0, 0, 5, 0, 0, 4, 9, 1, 2, 90, 1})
	f.Add(byte(3), byte(9), byte(0), byte(0), byte(100), byte(0), false, int64(1<<62-90), []byte{0, 0, 1, 2, 12, 0, 0, 9, 2, 2, 30, 0})
	f.Add(byte(3), byte(255), byte(0), byte(0), byte(0), byte(1), true, int64(-1<<62), []byte{0, 1, 1, 4, 2, 2, 6, 120, 0, 7, 0, 0})
	f.Fuzz(func(t *testing.T, kind, size, slide, offset, late, early byte, discard bool, base int64, b []byte) {
		c := fuzzedJob(kind, size, slide, offset, late, early, discard)
		family := []twin{newTwin(t, c)}
		for ; len(b) > 2; b = b[3:] {
			w := family[int(b[0]>>5)%len(family)]
			at := base + int64(int8(b[1]))
			switch b[0] & 7 {
			case 2, 6:
				w.do(t, markOf(int(b[2]&3), at))
			case 3:
				w.do(t, save())
			case 5:
				if len(family) < 4 {
					family = append(family, w.copied(t))
				}
			case 7:
				again, e := plain.From(w.j.State())
				if e != api.OK {
					t.Fatalf("From of a state is %d", e)
				}
				twin{again, modelOf(w.want.State)}.same(t)
			default:
				w.do(t, event(string(b[0]>>3&3), at, int64(int8(b[2]))<<56))
			}
			w.same(t)
		}
		for _, w := range family {
			w.same(t)
		}
	})
}

// fuzzedJob is a job out of bytes that may be.
func fuzzedJob(kind, size, slide, offset, late, early byte, discard bool) api.Config {
	c := api.Config{Groups: 1 + int(offset), Sources: 1 + int(late%3), Kind: api.Kind(1 + kind%3), Late: int64(late), Early: int(early % 8), Discard: discard}
	switch c.Kind {
	case api.Tumbling:
		c.Size = 1 + int64(size)
		c.Offset = int64(offset) % c.Size
	case api.Sliding:
		c.Slide = 1 + int64(slide)
		c.Size = c.Slide + int64(size)%(63*c.Slide+1)
		c.Offset = int64(offset) % c.Slide
	case api.Session:
		c.Gap = 1 + int64(size)
	}
	return c
}
