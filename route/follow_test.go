package route_test

import (
	"math/rand"
	"slices"
	"strings"
	"testing"

	"keepsake/api"
	"keepsake/route"
)

// drawer draws jobs, numbers of workers and items; the times of marks go on slowly, so that some raise the watermark and some do not.
type drawer struct {
	*rand.Rand
	c       api.Config
	workers int
	now     int64
	names   []string
}

func newDrawer(r *rand.Rand) *drawer {
	c := jobOf([]int{1, 2, 3, 4, 7, 16, 100, 32768}[r.Intn(8)], 1+r.Intn(4))
	switch r.Intn(3) {
	case 0:
		c.Kind, c.Slide = api.Sliding, 5
	case 1:
		c.Kind, c.Size, c.Gap = api.Session, 0, 10
	}
	d := &drawer{Rand: r, c: c, names: []string{"", "a", "ab", "b", "c", "d", "\x00", "\xff\xfe", "k", strings.Repeat("x", 255), strings.Repeat("x", 256)}}
	d.workers = 1 + r.Intn(min(c.Groups, 9))
	d.now = []int64{minTime, -20, 0, maxTime - 60}[r.Intn(4)]
	r.Shuffle(len(d.names), func(i, j int) { d.names[i], d.names[j] = d.names[j], d.names[i] })
	d.names = d.names[:1+r.Intn(8)]
	return d
}

// near is a time not far from now.
func (d *drawer) near() int64 {
	return min(max(d.now+d.Int63n(9)-5, minTime), maxTime)
}

func (d *drawer) item() api.Item {
	d.now = min(d.now+d.Int63n(3), maxTime)
	switch n := d.Intn(20); {
	case n < 10:
		return event(d.names[d.Intn(len(d.names))], d.near(), int64(d.Uint64()))
	case n < 17:
		return mark(d.Intn(d.c.Sources), d.near())
	case n < 18:
		return mark(d.Intn(d.c.Sources), []int64{minTime, d.now, d.near()}[d.Intn(3)])
	}
	return save()
}

func (d *drawer) items(n int) []api.Item {
	var l []api.Item
	for range n {
		l = append(l, d.item())
	}
	return l
}

func (d *drawer) wrongItem() api.Item {
	l := wrongItems(d.c)
	return l[d.Intn(len(l))]
}

// twin is a router of New, or of From somewhere.
func (d *drawer) twin(t *testing.T) twin {
	t.Helper()
	if d.Intn(2) == 0 {
		return newTwin(t, d.c, d.workers)
	}
	var marks []int64
	for range d.c.Sources {
		marks = append(marks, d.near())
	}
	return fromTwin(t, d.c, d.workers, marks, []int64{0, d.Int63n(100), furthest - 5, furthest}[d.Intn(4)])
}

// Drawn rows of items against the model, one by one and in heaps, with wrong ones between them, on a router and on its copies.
func TestAnyItems(t *testing.T) {
	r := rand.New(rand.NewSource(1))
	raised, not := 0, 0
	for range 500 {
		d := newDrawer(r)
		family := []twin{d.twin(t)}
		for range 60 {
			w := family[r.Intn(len(family))]
			switch r.Intn(12) {
			case 0:
				w.do(t, d.items(r.Intn(12))...)
			case 1:
				w.do(t, append(d.items(r.Intn(5)), d.wrongItem(), d.item())...)
			case 2:
				w.one(t, d.wrongItem())
			case 3:
				if len(family) < 4 {
					family = append(family, w.copied(t))
				}
			default:
				x := d.item()
				if l := w.one(t, x); x.Kind == api.ItemMark && len(l) > 0 {
					raised++
				} else if x.Kind == api.ItemMark {
					not++
				}
			}
			for _, w := range family {
				w.same(t)
			}
		}
	}
	if raised < 2000 || not < 2000 {
		t.Errorf("what is drawn is too even: %d marks raise the watermark, %d do not", raised, not)
	}
}

// toWorker are the messages that a worker gets.
func toWorker(sent []api.Sent, worker int) []api.Msg {
	var l []api.Msg
	for _, s := range sent {
		if s.Worker == worker {
			l = append(l, s.Msg)
		}
	}
	return l
}

// without are messages, but those of which that is said.
func without(l []api.Msg, gone func(api.Msg) bool) []api.Msg {
	return slices.DeleteFunc(slices.Clone(l), gone)
}

func isEvent(m api.Msg) bool { return m.Kind == api.MsgEvent }

// forAll are the messages that each worker must get of items, reckoned from the marks' beginning: saves, and the watermark behind each item that raises it.
func forAll(c api.Config, l []api.Item) []api.Msg {
	var all []api.Msg
	marks := slices.Repeat([]int64{minTime}, c.Sources)
	for seq, x := range l {
		low := slices.Min(marks)
		if x.Kind == api.ItemMark {
			marks[x.Source] = max(marks[x.Source], x.Time)
		}
		if now := slices.Min(marks); now > low {
			all = append(all, api.Msg{Kind: api.MsgMark, Seq: int64(seq), Time: now})
		}
		if x.Kind == api.ItemSave {
			all = append(all, api.Msg{Kind: api.MsgSave, Seq: int64(seq)})
		}
	}
	return all
}

// eventsOf holds the events that a worker gets against the items, and tells their numbers.
func eventsOf(t *testing.T, got []api.Msg, l []api.Item) (seqs []int64) {
	t.Helper()
	last := int64(-1)
	for _, m := range got {
		if m.Seq <= last {
			t.Fatalf("%v comes behind the item %d", m, last)
		}
		last = m.Seq
		if !isEvent(m) {
			continue
		}
		if x := l[m.Seq]; x != event(m.Key, m.Time, m.Value) {
			t.Fatalf("%v comes of %v", m, x)
		}
		seqs = append(seqs, m.Seq)
	}
	return seqs
}

// P15.5: all events of a key go to one worker, in the items' order; between them he gets just the marks and saves that lie there, which are those that each worker gets; the marks' times rise, each the watermark behind its item.
func TestWhatEachWorkerGets(t *testing.T) {
	r := rand.New(rand.NewSource(2))
	risen := 0
	for range 400 {
		d := newDrawer(r)
		w := newTwin(t, d.c, d.workers)
		l := d.items(80)
		sent := w.do(t, l...)
		want := forAll(d.c, l)
		var seqs []int64
		owner := map[string]int{}
		for worker := range d.workers {
			got := toWorker(sent, worker)
			if all := without(got, isEvent); !slices.Equal(all, want) {
				t.Fatalf("of %v the worker %d gets %v, want %v", l, worker, all, want)
			}
			for _, seq := range eventsOf(t, got, l) {
				key := l[seq].Key
				was, known := owner[key]
				if told, _ := w.r.Worker(key); told != worker || known && was != worker {
					t.Fatalf("the key %q, %d's, goes to %d, and to %d", key, told, worker, was)
				}
				owner[key] = worker
				seqs = append(seqs, seq)
			}
		}
		slices.Sort(seqs)
		for seq, x := range l {
			if _, found := slices.BinarySearch(seqs, int64(seq)); found != (x.Kind == api.ItemEvent) {
				t.Fatalf("of %v the events %v are sent", l, seqs)
			}
		}
		if len(sent) != len(seqs)+d.workers*len(want) || len(slices.Compact(seqs)) != len(seqs) {
			t.Fatalf("of %v too much is sent: %v", l, sent)
		}
		risen += len(want)
	}
	if risen < 2000 {
		t.Errorf("what is drawn is too even: all get %d messages", risen)
	}
}

// P15.5: with one worker all messages go to worker 0; with several each gets, of the same ones, the events of his keys and all else.
func TestOneWorkerAndSeveral(t *testing.T) {
	r := rand.New(rand.NewSource(3))
	for range 200 {
		d := newDrawer(r)
		l := d.items(60)
		alone, _ := route.New(d.c, 1)
		sent, _, _ := alone.Items(l...)
		whole := toWorker(sent, 0)
		if len(whole) != len(sent) {
			t.Fatalf("with one worker %v is sent", sent)
		}
		for _, workers := range []int{1, d.workers, min(d.c.Groups, 12)} {
			w, _ := route.New(d.c, workers)
			sent, taken, e := w.Items(l...)
			if taken != len(l) || e != api.OK {
				t.Fatalf("Items(%v) is %d, %d", l, taken, e)
			}
			if w.Seq() != alone.Seq() || w.Watermark() != alone.Watermark() || !slices.Equal(w.Marks(), alone.Marks()) {
				t.Fatalf("%d workers come to %d, %d, %v", workers, w.Seq(), w.Watermark(), w.Marks())
			}
			for worker := range workers {
				want := without(whole, func(m api.Msg) bool {
					owner, _ := w.Worker(m.Key)
					return isEvent(m) && owner != worker
				})
				if got := toWorker(sent, worker); !slices.Equal(got, want) {
					t.Fatalf("of %d workers %d gets\n%v, want\n%v", workers, worker, got, want)
				}
			}
		}
	}
}

// P15.5: From of a router's Marks and Seq goes on as that router does, wherever items are cut; so does a copy.
func TestFromGoesOn(t *testing.T) {
	r := rand.New(rand.NewSource(4))
	for range 100 {
		d := newDrawer(r)
		l := d.items(30)
		for cut := range len(l) + 1 {
			one, _ := route.New(d.c, d.workers)
			whole, _, _ := one.Copy().Items(l...)
			first, _, _ := one.Items(l[:cut]...)
			from, e := route.From(d.c, d.workers, one.Marks(), one.Seq())
			if from == nil || e != api.OK {
				t.Fatalf("From(.., %v, %d) is %v, %d", one.Marks(), one.Seq(), from, e)
			}
			for _, other := range []*route.Router{from, one.Copy(), one} {
				second, n, e := other.Items(l[cut:]...)
				if got := slices.Concat(first, second); !slices.Equal(got, whole) || n != len(l)-cut || e != api.OK {
					t.Fatalf("%v, cut at %d, are sent as\n%v, %d, %d, want\n%v", l, cut, got, n, e, whole)
				}
				if other.Seq() != int64(len(l)) || !slices.Equal(other.Marks(), from.Marks()) || other.Watermark() != from.Watermark() {
					t.Fatalf("%v, cut at %d, come to %d, %v, %d", l, cut, other.Seq(), other.Marks(), other.Watermark())
				}
			}
		}
	}
}

// From of them with another number of workers sends the same messages to others.
func TestFromWithOtherWorkers(t *testing.T) {
	r := rand.New(rand.NewSource(5))
	for range 200 {
		d := newDrawer(r)
		w := d.twin(t)
		w.do(t, d.items(20)...)
		if w.r.Seq() > furthest {
			continue // that is no number to begin with
		}
		other := fromTwin(t, d.c, 1+r.Intn(min(d.c.Groups, 9)), w.r.Marks(), w.r.Seq())
		for range 20 {
			x := d.item()
			a, b := toWorker(w.one(t, x), 0), toWorker(other.one(t, x), 0)
			if x.Kind != api.ItemEvent && !slices.Equal(a, b) {
				t.Fatalf("%v is sent as %v and as %v", x, a, b)
			}
			other.same(t)
		}
	}
}

// However items are cut into calls, they are sent as the same messages.
func TestCalls(t *testing.T) {
	r := rand.New(rand.NewSource(6))
	for range 200 {
		d := newDrawer(r)
		l := d.items(60)
		whole, w := newTwin(t, d.c, d.workers), newTwin(t, d.c, d.workers)
		want := whole.do(t, l...)
		var got []api.Sent
		for rest := l; len(rest) > 0; {
			n := min(r.Intn(8), len(rest))
			got = append(got, w.do(t, rest[:n]...)...)
			rest = rest[n:]
		}
		if !slices.Equal(got, want) {
			t.Fatalf("%v are sent as\n%v, want\n%v", l, got, want)
		}
		w.same(t)
	}
}

// A great many items in one call: it comes to an end soon, and to what it must.
func TestManyItems(t *testing.T) {
	const n = 200000
	var l []api.Item
	for i := range int64(n / 4) {
		l = append(l, event("a", i, 1), event("d", i, 2), mark(int(i%2), i), event("d", i, 3))
	}
	r, _ := route.New(job(), 2)
	sent, taken, e := r.Items(l...)
	if events := 3 * n / 4; len(sent) != events+2*(n/4-1) || taken != n || e != api.OK || r.Seq() != n || r.Watermark() != n/4-2 {
		t.Errorf("%d messages, %d taken, %d; Seq is %d, Watermark %d", len(sent), taken, e, r.Seq(), r.Watermark())
	}
}

// FuzzItems takes items out of bytes, three an item, on a router and on its copies, and holds what is sent against the model.
func FuzzItems(f *testing.F) {
	f.Add(uint16(3), byte(1), byte(1), int64(0), int64(0), []byte{0, 5, 1, 24, 6, 2, 2, 7, 0, 2, 3, 1, 2, 2, 1, 3, 0, 0, 2, 9, 2, 4, 0, 9})
	f.Add(uint16(32767), byte(3), byte(255), int64(-1<<62), int64(1<<62), []byte{2, 0, 0, 2, 1, 1, 2, 2, 2, 2, 3, 3, 5, 0, 0, 34, 9, 0, 1, 1, 1})
	f.Add(uint16(0), byte(0), byte(0), int64(1<<62), int64(7), []byte{2, 0, 0, 2, 1, 0, 0, 1, 0, 7, 0, 0, 3, 0, 0})
	f.Fuzz(func(t *testing.T, groups uint16, sources, workers byte, base, seq int64, b []byte) {
		c := jobOf(1+int(groups)%32768, 1+int(sources%4))
		of := 1 + int(workers)%min(c.Groups, 256)
		marks := slices.Repeat([]int64{base}, c.Sources)
		r, e := route.From(c, of, marks, seq)
		may := base >= minTime && base <= maxTime && seq >= 0 && seq <= furthest
		if may != (e == api.OK) || may != (r != nil) || !may && e != api.ErrArg {
			t.Fatalf("From(%+v, %d, %v, %d) is %v, %d", c, of, marks, seq, r, e)
		}
		if !may {
			return
		}
		family := []twin{{r, &model{c, of, slices.Clone(marks), seq}}}
		for ; len(b) > 2; b = b[3:] {
			w := family[int(b[0]>>5)%len(family)]
			at := base + int64(int8(b[1]))
			switch b[0] & 7 {
			case 2, 6:
				w.one(t, mark(int(b[2]&7)-1, at))
			case 3:
				w.do(t, save(), event(string(b[1:3]), at, 5), mark(int(b[2]&7), at), save())
			case 4:
				w.one(t, api.Item{Kind: api.ItemKind(b[1] & 7), Value: int64(b[2] & 3)})
			case 5:
				if len(family) < 4 {
					family = append(family, w.copied(t))
				}
			case 7:
				if w.r.Seq() <= furthest {
					fromTwin(t, c, of, w.r.Marks(), w.r.Seq()).same(t)
				}
			default:
				w.one(t, event(string(b[0]>>3&3+'a'), at, int64(int8(b[2]))<<56))
			}
			w.same(t)
		}
		for _, w := range family {
			w.same(t)
		}
	})
}
