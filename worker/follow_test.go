package worker_test

import (
	"cmp"
	"encoding/binary"
	"math/rand"
	"slices"
	"strings"
	"testing"

	"keepsake/api"
	"keepsake/plain"
	"keepsake/route"
	"keepsake/worker"
)

// Drawn rows of messages against the model, with wrong ones between them, and with keys loaded now and then, on a worker and on its copies.
func TestAnyMessages(t *testing.T) {
	r := rand.New(rand.NewSource(1))
	kinds, others, falls, several := [4]int{}, 0, 0, 0
	for i := range 500 {
		d := newDrawer(r, i%3 == 0)
		family := []twin{d.twin(t)}
		for range 60 {
			w := family[r.Intn(len(family))]
			switch n := r.Intn(24); {
			case n == 0 && i%2 == 0:
				w.load(t, d.anyKeys()...)
			case n == 1:
				w.do(t, d.wrongMsg())
			case n == 2 && len(family) < 4:
				family = append(family, w.copied(t))
			default:
				x := d.msg()
				if x.Kind == api.MsgEvent && !w.want.owns(x.Key) {
					others++
				}
				rises := x.Kind == api.MsgMark && x.Time > w.want.mark
				if x.Kind == api.MsgMark && !rises {
					falls++
				}
				next, waits := w.w.Next()
				l := w.do(t, x)
				if rises && (len(l) > 0) != (waits && next <= x.Time) {
					t.Fatalf("Next is %d, %t, and the mark %d tells %v", next, waits, x.Time, l)
				}
				inOrder(t, w, rises)
				for _, p := range l {
					kinds[p.Kind]++
				}
				if rises && len(l) > 1 && l[0].Key != l[len(l)-1].Key {
					several++
				}
			}
			for _, w := range family {
				w.same(t)
			}
		}
	}
	if slices.Min(kinds[1:]) < 1000 || others < 1000 || falls < 1000 || several < 300 {
		t.Errorf("what is drawn is too even: panes %v, others' events %d, marks that fall %d, that tell of several keys %d", kinds, others, falls, several)
	}
}

// The same behind keys that are in order, most of which can't be.
func TestAnyMessagesBehindAnyKeys(t *testing.T) {
	r := rand.New(rand.NewSource(2))
	for i := range 1500 {
		d := newDrawer(r, i%3 == 0)
		w := newTwin(t, d.c, 0, 1, d.near(25, 5))
		w.load(t, d.anyKeys()...)
		w.same(t)
		for range 20 {
			x := d.msg()
			rises := x.Kind == api.MsgMark && x.Time > w.want.mark
			w.do(t, x)
			w.same(t)
			inOrder(t, w, rises)
		}
	}
}

// Longer rows of more keys, looked at now and then.
func TestLongRows(t *testing.T) {
	r := rand.New(rand.NewSource(3))
	for i := range 12 {
		d := newDrawer(r, i%3 == 0)
		for range 40 {
			d.names = append(d.names, string([]byte{byte(r.Intn(256)), byte(r.Intn(256))}))
		}
		w := d.twin(t)
		for range 20 {
			w.do(t, d.msgs(100)...)
			w.same(t)
		}
	}
}

// goesOn holds what a worker tells of messages against what is wanted, and where it comes to against another one.
func goesOn(t *testing.T, w *worker.Worker, l []api.Msg, want []api.Pane, like *worker.Worker) {
	t.Helper()
	var got []api.Pane
	for _, x := range l {
		told, _ := w.Take(x)
		got = append(got, told...)
	}
	if !slices.Equal(got, want) {
		t.Fatalf("%+v tell\n%v, want\n%v", l, got, want)
	}
	next, waits := w.Next()
	likeNext, likeWaits := like.Next()
	if !sameKeys(w.Keys(), like.Keys()) || w.Mark() != like.Mark() || w.Outward() != like.Outward() || next != likeNext || waits != likeWaits || w.Len() != like.Len() {
		t.Fatalf("%+v come to\n%+v, %d, %d, %d, %t, want\n%+v, %d, %d, %d, %t", l, w.Keys(), w.Mark(), w.Outward(), next, waits, like.Keys(), like.Mark(), like.Outward(), likeNext, likeWaits)
	}
}

// P16.7: messages that are cut in two anywhere: Load of its Keys changes nothing, and another worker with its mark and its Keys goes on as it does; so does a copy.
func TestCutAnywhere(t *testing.T) {
	r := rand.New(rand.NewSource(4))
	for i := range 120 {
		d := newDrawer(r, i%3 == 0)
		begun := d.twin(t)
		if i%4 == 0 {
			begun.load(t, d.anyKeys()...)
		}
		l := d.msgs(40)
		for cut := range len(l) + 1 {
			w := begun.copied(t)
			w.do(t, l[:cut]...)
			other, e := worker.New(d.c, w.want.worker, w.want.workers, w.w.Mark())
			if e != api.OK || other.Load(w.w.Keys()...) != api.OK {
				t.Fatalf("of %v there is no other worker: %d", w.w.Keys(), e)
			}
			loaded := w.w.Copy()
			if e := loaded.Load(loaded.Keys()...); e != api.OK {
				t.Fatalf("Load of Keys is %d", e)
			}
			twice := w.w.Copy()
			goesOn(t, other, nil, nil, w.w)
			goesOn(t, loaded, nil, nil, w.w)
			rest := w.do(t, l[cut:]...)
			w.same(t)
			for _, x := range []*worker.Worker{other, loaded, twice} {
				goesOn(t, x, l[cut:], rest, w.w)
			}
		}
	}
}

// ofKey are the panes of a key.
func ofKey(l []api.Pane, name string) []api.Pane {
	return slices.DeleteFunc(slices.Clone(l), func(p api.Pane) bool { return p.Key != name })
}

// P16.7: what is told of a key, and its state, hang on its own events and on the marks alone: other events are left out, and others put in.
func TestByKeys(t *testing.T) {
	r := rand.New(rand.NewSource(5))
	for i := range 300 {
		d := newDrawer(r, i%3 == 0)
		l := d.msgs(80)
		whole := newTwin(t, d.c, 0, 1, d.now)
		all := whole.do(t, l...)
		for _, name := range d.names {
			var own, more []api.Msg
			for _, x := range l {
				if x.Kind != api.MsgEvent || x.Key == name {
					for range r.Intn(3) {
						more = append(more, event("other"+name[:min(9, len(name))], d.near(25, 15), d.value()), save())
					}
					own, more = append(own, x), append(more, x)
				}
			}
			for _, l := range [][]api.Msg{own, more} {
				w := newTwin(t, d.c, 0, 1, d.now)
				if got := ofKey(w.do(t, l...), name); !slices.Equal(got, ofKey(all, name)) {
					t.Fatalf("%+v tell of %q\n%v, want\n%v", l, name, got, ofKey(all, name))
				}
				a, found := w.w.Key(name)
				b, wantFound := whole.w.Key(name)
				if !sameKey(a, b) || found != wantFound {
					t.Fatalf("%+v come to %+v, want %+v", l, a, b)
				}
			}
		}
	}
}

// item is an item that a router makes such a message of.
func item(d *drawer, x api.Msg) api.Item {
	switch x.Kind {
	case api.MsgEvent:
		return api.Item{Kind: api.ItemEvent, Key: x.Key, Time: x.Time, Value: x.Value}
	case api.MsgMark:
		return api.Item{Kind: api.ItemMark, Source: d.Intn(d.c.Sources), Time: x.Time}
	}
	return api.Item{Kind: api.ItemSave}
}

// crew are workers that share the keys, behind a router.
type crew struct {
	r *route.Router
	l []*worker.Worker
}

// crewOf is a crew of so many, at the marks of sources, with keys.
func crewOf(t *testing.T, c api.Config, of int, marks []int64, seq int64, all []api.KeyState) crew {
	t.Helper()
	r, e := route.From(c, of, marks, seq)
	if e != api.OK {
		t.Fatalf("From(%+v, %d, %v, %d) is %d", c, of, marks, seq, e)
	}
	b := crew{r: r}
	for n := range of {
		w, _ := worker.New(c, n, of, slices.Min(marks))
		own := slices.DeleteFunc(slices.Clone(all), func(k api.KeyState) bool {
			owner, _ := r.Worker(k.Key)
			return owner != n
		})
		if e := w.Load(own...); e != api.OK {
			t.Fatalf("%d of %d: Load(%+v) is %d", n, of, own, e)
		}
		b.l = append(b.l, w)
	}
	return b
}

// item does an item, each worker in his turn as it is drawn, and tells all panes of it in the order in which one worker would.
func (b crew) item(t *testing.T, r *rand.Rand, x api.Item) []api.Pane {
	t.Helper()
	var all []api.Pane
	sent, e := b.r.Item(x)
	if e != api.OK {
		t.Fatalf("Item(%+v) is %d", x, e)
	}
	for _, i := range r.Perm(len(sent)) {
		told, e := b.l[sent[i].Worker].Take(sent[i].Msg)
		if e != api.OK {
			t.Fatalf("%d of %d: Take(%+v) is %d", sent[i].Worker, len(b.l), sent[i].Msg, e)
		}
		all = append(all, told...)
	}
	slices.SortStableFunc(all, func(a, b api.Pane) int {
		return cmp.Or(cmp.Compare(a.End, b.End), strings.Compare(a.Key, b.Key))
	})
	return all
}

// keys are all keys, rising.
func (b crew) keys() (l []api.KeyState) {
	for _, w := range b.l {
		l = append(l, w.Keys()...)
	}
	slices.SortFunc(l, func(a, b api.KeyState) int { return strings.Compare(a.Key, b.Key) })
	return l
}

// outward is the least of all outward marks.
func (b crew) outward() int64 {
	out := b.l[0].Outward()
	for _, w := range b.l {
		out = min(out, w.Outward())
	}
	return out
}

// P16.7: several workers that share the keys tell together, of each item, what one alone tells, and what a plain job tells; and come to its state, its watermark, its outward mark. In the midst of it the keys are handed to other numbers of workers.
func TestManyWorkersAndOne(t *testing.T) {
	r := rand.New(rand.NewSource(6))
	told := 0
	for i := range 200 {
		d := newDrawer(r, i%3 == 0)
		begin := slices.Repeat([]int64{minTime}, d.c.Sources)
		one, _ := plain.New(d.c)
		many := []crew{crewOf(t, d.c, 1, begin, 0, nil), crewOf(t, d.c, 1+r.Intn(min(d.c.Groups, 5)), begin, 0, nil), crewOf(t, d.c, min(d.c.Groups, 20), begin, 0, nil)}
		out := int64(minTime)
		for n, m := range d.msgs(80) {
			x := item(d, m)
			want, _ := one.Item(x)
			told += len(want)
			for _, b := range many {
				if got := b.item(t, r, x); !slices.Equal(got, want) {
					t.Fatalf("%d workers tell of %+v\n%v, want\n%v", len(b.l), x, got, want)
				}
				if !sameKeys(b.keys(), one.State().Keys) || b.outward() != one.Out() || b.outward() < out || b.l[0].Mark() != one.Mark() {
					t.Fatalf("%d workers come to\n%+v, %d, %d, want\n%+v, %d, %d", len(b.l), b.keys(), b.outward(), b.l[0].Mark(), one.State().Keys, one.Out(), one.Mark())
				}
			}
			out = one.Out()
			if n%20 == 19 {
				many[1] = crewOf(t, d.c, 1+r.Intn(min(d.c.Groups, 9)), many[1].r.Marks(), many[1].r.Seq(), many[1].keys())
			}
		}
	}
	if told < 3000 {
		t.Errorf("what is drawn is too even: %d panes", told)
	}
}

// A great many keys with a window each, and marks that touch some of them: it comes to an end soon, and to what it must.
func TestManyKeys(t *testing.T) {
	const n = 20000
	w, _ := worker.New(example(), 0, 1, minTime)
	name := func(i int) string { return string(binary.BigEndian.AppendUint32(nil, uint32(i))) }
	for i := range n {
		w.Take(event(name(i), int64(i), 1))
	}
	told := 0
	for at := range int64(n + 20) {
		if at > 10 {
			if end, _ := w.Next(); end < at && at <= n {
				t.Fatalf("at the mark %d Next is %d", at, end)
			}
		}
		l, e := w.Take(mark(at))
		told += len(l)
		if e != api.OK || len(l) > 10 || w.Outward() != min(at, max(at/10*10, 0)) && at < n {
			t.Fatalf("the mark %d tells %d panes, %d; Outward is %d", at, len(l), e, w.Outward())
		}
	}
	if told != n || w.Len() != 0 {
		t.Errorf("%d panes are told, %d keys are left", told, w.Len())
	}
}

// A key with a great many windows: a mark that makes one of them due does not cost what all of them do.
func TestManyWindows(t *testing.T) {
	const n = 3000
	w := alone(t, example(), 0)
	var wins []api.Win
	for i := range int64(n) {
		wins = append(wins, one(10*i, 10*i+10, 10*i))
	}
	w.load(t, key("a", 0, wins...))
	w.stands(t, 0, 0, 10, 1)
	for i := range int64(n) {
		w.do(t, mark(10*i+10))
	}
	w.stands(t, 10*n, 10*n, 0, 1)
	w.wants(t, msgs(mark(10*n+5)))
	w.stands(t, 10*n+5, 10*n+5, 0, 0)
}

// FuzzMessages takes messages out of bytes, three a message, on a worker and on its copies, and holds what they do against the model.
func FuzzMessages(f *testing.F) {
	f.Add(byte(0), byte(0), byte(10), byte(5), int64(0), []byte{0, 3, 7, 8, 12, 1, 2, 10, 0, 0, 4, 2, 2, 10, 0, 2, 15, 0, 0, 1, 1})
	f.Add(byte(1), byte(5), byte(10), byte(0), int64(-1<<62), []byte{0, 3, 7, 5, 0, 0, 32, 12, 1, 2, 10, 0, 0, 4, 2, 34, 10, 0, 6, 0, 0, 7, 1, 9, 2, 90, 0})
	f.Add(byte(2), byte(3), byte(30), byte(9), int64(1<<62), []byte{0, 3, 7, 0, 250, 1, 0, 12, 1, 4, 0, 0, 2, 40, 0, 0, 9, 2, 7, 3, 40, 2, 60, 0})
	f.Fuzz(func(t *testing.T, kind, way, size, lateness byte, at int64, b []byte) {
		c := api.Config{Groups: 4, Sources: 1 + int(way&1), Kind: api.Kind(1 + kind%3), Size: 1 + int64(size), Late: int64(lateness), Early: int(way >> 1 & 3), Discard: way>>3&1 == 1}
		switch c.Kind {
		case api.Sliding:
			c.Slide = (c.Size + 7) / 8
		case api.Session:
			c.Size, c.Gap = 0, c.Size
		}
		of := 1 + int(way>>4&3)
		n := int(way>>6) % of
		w, e := worker.New(c, n, of, at)
		if may := at >= minTime && at <= maxTime; may != (e == api.OK) || may != (w != nil) || !may && e != api.ErrArg {
			t.Fatalf("New(%+v, %d, %d, %d) is %v, %d", c, n, of, at, w, e)
		}
		if w == nil {
			return
		}
		family := []twin{{w, &model{c, n, of, at, nil}}}
		for ; len(b) > 2; b = b[3:] {
			w := family[int(b[0]>>5)%len(family)]
			was := w.want.mark
			near := was + int64(int8(b[1]))
			switch b[0] & 7 {
			case 2, 3:
				w.do(t, mark(was+int64(b[1])))
				inOrder(t, w, w.want.mark > was)
			case 4:
				w.do(t, api.Msg{Kind: api.MsgKind(b[1] & 3), Seq: int64(int8(b[2])), Time: near * int64(b[1]>>7)}, mark(near))
			case 5:
				if len(family) < 4 {
					family = append(family, w.copied(t))
				}
			case 6:
				w.load(t, w.w.Keys()...)
			case 7:
				w.load(t, key(string(b[0]>>3&3+'a'), int64(b[2]&1), one(near, near+1+int64(b[2]), near-int64(b[2]>>4))))
			default:
				w.do(t, event(string(b[0]>>3&3+'a'), near, int64(int8(b[2]))<<56))
			}
			w.same(t)
			inOrder(t, w, false)
		}
		for _, w := range family {
			w.same(t)
		}
	})
}
