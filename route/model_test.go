package route_test

import (
	"hash/fnv"
	"math"
	"slices"
	"strings"
	"testing"

	"keepsake/api"
	"keepsake/route"
)

// What the chapter says, done to plain lists.

const (
	least    = math.MinInt64
	greatest = math.MaxInt64
	minTime  = -1 << 62
	maxTime  = 1 << 62
	furthest = 1 << 62 // the greatest number that a next item may have at the beginning
)

// job is the chapter's: of its keys a, b, c, d the groups are 0, 1, 2, 3.
func job() api.Config { return jobOf(4, 2) }

func jobOf(groups, sources int) api.Config {
	return api.Config{Groups: groups, Sources: sources, Kind: api.Tumbling, Size: 10, Late: 5}
}

// kinds are jobs of each kind, all of 4 groups and 2 sources.
func kinds() []api.Config {
	return []api.Config{
		job(),
		{Groups: 4, Sources: 2, Kind: api.Sliding, Size: 10, Slide: 5, Offset: 3, Early: 2, Discard: true},
		{Groups: 4, Sources: 2, Kind: api.Session, Gap: 10, Late: 100},
	}
}

func event(key string, at, v int64) api.Item {
	return api.Item{Kind: api.ItemEvent, Key: key, Time: at, Value: v}
}

func mark(source int, at int64) api.Item {
	return api.Item{Kind: api.ItemMark, Source: source, Time: at}
}

func save() api.Item { return api.Item{Kind: api.ItemSave} }

func items(l ...api.Item) []api.Item { return l }

// fell is an event on its way to a worker.
func fell(worker int, seq int64, key string, at, v int64) api.Sent {
	return api.Sent{Worker: worker, Msg: api.Msg{Kind: 1, Seq: seq, Key: key, Time: at, Value: v}}
}

// rose is what a worker gets when the watermark rises.
func rose(worker int, seq, at int64) api.Sent {
	return api.Sent{Worker: worker, Msg: api.Msg{Kind: 2, Seq: seq, Time: at}}
}

// saves is a save on its way to a worker.
func saves(worker int, seq int64) api.Sent {
	return api.Sent{Worker: worker, Msg: api.Msg{Kind: 3, Seq: seq}}
}

// wrongItems are items of each of which one thing may not be.
func wrongItems(c api.Config) []api.Item {
	l := []api.Item{
		{}, {Kind: -1}, {Kind: 4}, {Kind: 9}, {Kind: least}, {Kind: greatest}, {Kind: 4, Key: "a", Time: 3, Value: 1},
		event(strings.Repeat("x", 257), 3, 1), event(strings.Repeat("x", 70000), 3, 1),
		{Kind: api.ItemEvent, Key: "a", Time: 3, Value: 1, Source: 1}, {Kind: api.ItemEvent, Key: "a", Source: -1},
		mark(-1, 3), mark(c.Sources, 3), mark(least, 3), mark(greatest, 3),
		{Kind: api.ItemMark, Time: 3, Key: "a"}, {Kind: api.ItemMark, Time: 3, Value: 1},
		{Kind: api.ItemSave, Key: "a"}, {Kind: api.ItemSave, Time: 1}, {Kind: api.ItemSave, Value: 1}, {Kind: api.ItemSave, Source: 1},
	}
	for _, n := range []int64{minTime - 1, maxTime + 1, least, greatest} {
		l = append(l, event("a", n, 1), mark(0, n), mark(c.Sources-1, n))
	}
	return l
}

// model is a router: its job, its workers, the sources' marks, the next item's number.
type model struct {
	c       api.Config
	workers int
	marks   []int64
	seq     int64
}

func (m *model) copied() *model {
	return &model{m.c, m.workers, slices.Clone(m.marks), m.seq}
}

func (m *model) watermark() int64 { return slices.Min(m.marks) }

// worker is the first worker whose groups end behind the key's.
func (m *model) worker(key string) int {
	h := fnv.New32a()
	h.Write([]byte(key))
	group := int(uint64(h.Sum32()) % uint64(m.c.Groups))
	for w := range m.workers {
		if group < (w+1)*m.c.Groups/m.workers {
			return w
		}
	}
	return -1
}

func (m *model) mayBe(x api.Item) bool {
	timely := x.Time >= minTime && x.Time <= maxTime
	switch x.Kind {
	case 1:
		return len(x.Key) <= 256 && timely && x.Source == 0
	case 2:
		return x.Source >= 0 && x.Source < m.c.Sources && timely && x.Key == "" && x.Value == 0
	case 3:
		return x == api.Item{Kind: 3}
	}
	return false
}

// items takes items up to the first one that may not be.
func (m *model) items(l ...api.Item) (sent []api.Sent, taken int, e api.Errno) {
	for n, x := range l {
		if !m.mayBe(x) {
			return sent, n, 5
		}
		sent = append(sent, m.item(x)...)
	}
	return sent, len(l), 0
}

func (m *model) item(x api.Item) (sent []api.Sent) {
	seq, w := m.seq, m.watermark()
	m.seq++
	if x.Kind == 1 {
		return []api.Sent{fell(m.worker(x.Key), seq, x.Key, x.Time, x.Value)}
	}
	if x.Kind == 2 {
		m.marks[x.Source] = max(m.marks[x.Source], x.Time)
	}
	for worker := range m.workers {
		if x.Kind == 3 {
			sent = append(sent, saves(worker, seq))
		} else if m.watermark() > w {
			sent = append(sent, rose(worker, seq, m.watermark()))
		}
	}
	return sent
}

// twin is a router and what it must be.
type twin struct {
	r    *route.Router
	want *model
}

// newTwin is a router of New.
func newTwin(t *testing.T, c api.Config, workers int) twin {
	t.Helper()
	r, e := route.New(c, workers)
	if r == nil || e != api.OK {
		t.Fatalf("New(%+v, %d) is %v, %d", c, workers, r, e)
	}
	return twin{r, &model{c, workers, slices.Repeat([]int64{minTime}, c.Sources), 0}}
}

// fromTwin is a router of From.
func fromTwin(t *testing.T, c api.Config, workers int, marks []int64, seq int64) twin {
	t.Helper()
	r, e := route.From(c, workers, marks, seq)
	if r == nil || e != api.OK {
		t.Fatalf("From(%+v, %d, %v, %d) is %v, %d", c, workers, marks, seq, r, e)
	}
	return twin{r, &model{c, workers, slices.Clone(marks), seq}}
}

// copied is a copy of both.
func (w twin) copied(t *testing.T) twin {
	t.Helper()
	r := w.r.Copy()
	if r == nil || r == w.r {
		t.Fatalf("Copy is %p of %p", r, w.r)
	}
	return twin{r, w.want.copied()}
}

// do hands items to both, in one call.
func (w twin) do(t *testing.T, l ...api.Item) []api.Sent {
	t.Helper()
	was := slices.Clone(l)
	want, wantTaken, wantE := w.want.items(l...)
	got, taken, e := w.r.Items(l...)
	if !slices.Equal(got, want) || taken != wantTaken || e != wantE {
		t.Fatalf("of %+v, %d workers, Items(%v) is\n%v, %d, %d, want\n%v, %d, %d", w.want.c, w.want.workers, l, got, taken, e, want, wantTaken, wantE)
	}
	if !slices.Equal(l, was) {
		t.Fatalf("%v were handed in, and are %v then", was, l)
	}
	return got
}

// one hands an item to both, by itself.
func (w twin) one(t *testing.T, x api.Item) []api.Sent {
	t.Helper()
	want, _, wantE := w.want.items(x)
	got, e := w.r.Item(x)
	if !slices.Equal(got, want) || e != wantE {
		t.Fatalf("of %+v, %d workers, Item(%v) is\n%v, %d, want\n%v, %d", w.want.c, w.want.workers, x, got, e, want, wantE)
	}
	if len(want) == 0 && got != nil {
		t.Fatalf("Item(%v) is %#v, not none", x, got)
	}
	return got
}

// same asks all that the router tells.
func (w twin) same(t *testing.T) {
	t.Helper()
	r, m := w.r, w.want
	if got := r.Marks(); !slices.Equal(got, m.marks) || r.Watermark() != m.watermark() || r.Seq() != m.seq {
		t.Fatalf("Marks, Watermark, Seq are %v, %d, %d, want %v, %d, %d", got, r.Watermark(), r.Seq(), m.marks, m.watermark(), m.seq)
	}
	for _, key := range []string{"", "a", "b", "c", "d", "\xff\x00", strings.Repeat("x", 256)} {
		if n, e := r.Worker(key); n != m.worker(key) || e != api.OK {
			t.Fatalf("of %d groups, %d workers, Worker(%q) is %d, %d, want %d", m.c.Groups, m.workers, key, n, e, m.worker(key))
		}
	}
}

// wants hands in items one by one, and holds what is sent against what is wanted.
func (w twin) wants(t *testing.T, l []api.Item, want ...api.Sent) {
	t.Helper()
	var got []api.Sent
	for _, x := range l {
		got = append(got, w.one(t, x)...)
	}
	if !slices.Equal(got, want) {
		t.Errorf("%v are sent as\n%v, want\n%v", l, got, want)
	}
	w.same(t)
}

// stands holds where the router stands against what is wanted.
func (w twin) stands(t *testing.T, seq, watermark int64, marks ...int64) {
	t.Helper()
	if r := w.r; r.Seq() != seq || r.Watermark() != watermark || !slices.Equal(r.Marks(), marks) {
		t.Errorf("Seq, Watermark, Marks are %d, %d, %v, want %d, %d, %v", r.Seq(), r.Watermark(), r.Marks(), seq, watermark, marks)
	}
}
