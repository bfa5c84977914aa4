package worker_test

import (
	"cmp"
	"hash/fnv"
	"math"
	"slices"
	"strings"
	"testing"

	"keepsake/api"
	"keepsake/config"
	"keepsake/keyed"
	"keepsake/worker"
)

// What the chapter says, done to a plain list of keys that is looked through from end to end.

const (
	least    = math.MinInt64
	greatest = math.MaxInt64
	minTime  = -1 << 62
	maxTime  = 1 << 62
	maxSpan  = 1 << 40
	most     = 1 << 53
)

// example is the job T of the chapter: of its keys a, b, c, d the groups are 0, 1, 2, 3.
func example() api.Config {
	return api.Config{Groups: 4, Sources: 1, Kind: api.Tumbling, Size: 10, Late: 5}
}

// sliding has windows of 10 that lie 5 apart.
func sliding() api.Config {
	return api.Config{Groups: 4, Sources: 2, Kind: api.Sliding, Size: 10, Slide: 5, Late: 5}
}

func session() api.Config {
	return api.Config{Groups: 4, Sources: 3, Kind: api.Session, Gap: 10, Late: 100}
}

func kinds() []api.Config { return []api.Config{example(), sliding(), session()} }

// with is a job with Early and Discard.
func with(c api.Config, early int, discard bool) api.Config {
	c.Early, c.Discard = early, discard
	return c
}

// late is a job with another Late.
func late(c api.Config, n int64) api.Config {
	c.Late = n
	return c
}

func event(key string, at, v int64) api.Msg {
	return api.Msg{Kind: api.MsgEvent, Key: key, Time: at, Value: v}
}

func mark(at int64) api.Msg { return api.Msg{Kind: api.MsgMark, Time: at} }

func save() api.Msg { return api.Msg{Kind: api.MsgSave} }

func msgs(l ...api.Msg) []api.Msg { return l }

// win is a window: its span, its tally, Since, Panes, Hold.
func win(start, end, count, sum, low, high, since, panes, hold int64) api.Win {
	return api.Win{Span: api.Span{Start: start, End: end}, Hold: hold, Tally: api.Tally{Count: count, Sum: sum, Min: low, Max: high}, Since: since, Panes: panes}
}

// one is a window with one value, 1, that has told no pane.
func one(start, end, hold int64) api.Win { return win(start, end, 1, 1, 1, 1, 1, 0, hold) }

func pane(key string, start, end int64, kind api.PaneKind, nth, count, sum, low, high int64) api.Pane {
	return api.Pane{Key: key, Span: api.Span{Start: start, End: end}, Kind: kind, Nth: nth, Tally: api.Tally{Count: count, Sum: sum, Min: low, Max: high}}
}

// onTime is the first pane of a window of one.
func onTime(key string, start, end int64) api.Pane {
	return pane(key, start, end, api.OnTime, 0, 1, 1, 1, 1)
}

func panes(l ...api.Pane) []api.Pane { return l }

func key(name string, dropped int64, l ...api.Win) api.KeyState {
	return api.KeyState{Key: name, Dropped: dropped, Windows: l}
}

func keys(l ...api.KeyState) []api.KeyState { return l }

func sameKey(a, b api.KeyState) bool {
	return a.Key == b.Key && a.Dropped == b.Dropped && slices.Equal(a.Windows, b.Windows)
}

func sameKeys(a, b []api.KeyState) bool { return slices.EqualFunc(a, b, sameKey) }

// copied are keys in memory of their own.
func copied(l []api.KeyState) []api.KeyState {
	l = slices.Clone(l)
	for i := range l {
		l[i].Key, l[i].Windows = strings.Clone(l[i].Key), slices.Clone(l[i].Windows)
	}
	return l
}

// model is a worker: the job, which worker it is, its mark, its keys.
type model struct {
	c       api.Config
	worker  int
	workers int
	mark    int64
	keys    []api.KeyState
}

func (m *model) copied() *model {
	other := *m
	other.keys = copied(m.keys)
	return &other
}

// owns tells whether the worker is the first one whose groups end behind the key's.
func (m *model) owns(name string) bool {
	h := fnv.New32a()
	h.Write([]byte(name))
	group := int(uint64(h.Sum32()) % uint64(m.c.Groups))
	for w := range m.workers {
		if group < (w+1)*m.c.Groups/m.workers {
			return w == m.worker
		}
	}
	return false
}

// find is the place of a key, and whether it is there.
func (m *model) find(name string) (int, bool) {
	return slices.BinarySearchFunc(m.keys, name, func(k api.KeyState, name string) int { return strings.Compare(k.Key, name) })
}

func (m *model) key(name string) (api.KeyState, bool) {
	if at, found := m.find(name); found {
		return m.keys[at], true
	}
	return api.KeyState{}, false
}

func (m *model) load(l ...api.KeyState) api.Errno {
	for i, k := range l {
		if i > 0 && l[i-1].Key >= k.Key || config.Key(m.c, k) != api.OK || len(k.Windows) == 0 && k.Dropped == 0 {
			return 6
		}
	}
	for _, k := range l {
		if !m.owns(k.Key) {
			return 260
		}
	}
	m.keys = copied(l)
	return 0
}

func (m *model) mayBe(x api.Msg) bool {
	timely := x.Time >= minTime && x.Time <= maxTime
	switch x.Kind {
	case 1:
		return x.Seq >= 0 && len(x.Key) <= 256 && timely
	case 2:
		return x.Seq >= 0 && timely && x.Key == "" && x.Value == 0
	case 3:
		return x.Seq >= 0 && x == api.Msg{Kind: 3, Seq: x.Seq}
	}
	return false
}

func (m *model) take(x api.Msg) ([]api.Pane, api.Errno) {
	switch {
	case !m.mayBe(x):
		return nil, 5
	case x.Kind == 1 && !m.owns(x.Key):
		return nil, 260
	case x.Kind == 2 && x.Time <= m.mark:
		return nil, 261
	case x.Kind == 1:
		return m.event(x), 0
	case x.Kind == 2:
		return m.rise(x.Time), 0
	}
	return nil, 0
}

// event is what layer 12 makes of the key at the mark.
func (m *model) event(x api.Msg) []api.Pane {
	at, found := m.find(x.Key)
	if !found {
		m.keys = slices.Insert(m.keys, at, key(x.Key, 0))
	}
	k, told, _, e := keyed.Event(m.c, m.keys[at], m.mark, x.Time, x.Value)
	if e != api.OK {
		panic(e)
	}
	m.keys[at] = k
	return told
}

// rise is what layer 12 makes of each key.
func (m *model) rise(to int64) []api.Pane {
	var told []api.Pane
	var left []api.KeyState
	for _, k := range m.keys {
		made, l, e := keyed.Advance(m.c, k, m.mark, to)
		if e != api.OK {
			panic(e)
		}
		told = append(told, l...)
		if len(made.Windows) > 0 || made.Dropped > 0 {
			left = append(left, made)
		}
	}
	m.keys, m.mark = left, to
	slices.SortFunc(told, func(a, b api.Pane) int {
		return cmp.Or(cmp.Compare(a.End, b.End), strings.Compare(a.Key, b.Key), cmp.Compare(a.Start, b.Start))
	})
	return told
}

// waiting are all windows that are not due.
func (m *model) waiting() (l []api.Win) {
	for _, k := range m.keys {
		for _, x := range k.Windows {
			if x.End > m.mark {
				l = append(l, x)
			}
		}
	}
	return l
}

func (m *model) outward() int64 {
	out := m.mark
	for _, x := range m.waiting() {
		out = min(out, x.Hold)
	}
	return out
}

func (m *model) next() (int64, bool) {
	l := m.waiting()
	if len(l) == 0 {
		return 0, false
	}
	return slices.MinFunc(l, func(a, b api.Win) int { return cmp.Compare(a.End, b.End) }).End, true
}

// from are the keys from one on.
func (m *model) from(name string) (l []api.KeyState) {
	for _, k := range m.keys {
		if k.Key >= name {
			l = append(l, k)
		}
	}
	return l
}

// twin is a worker and what it must be.
type twin struct {
	w    *worker.Worker
	want *model
}

// newTwin is a worker of New.
func newTwin(t *testing.T, c api.Config, n, of int, at int64) twin {
	t.Helper()
	w, e := worker.New(c, n, of, at)
	if w == nil || e != api.OK {
		t.Fatalf("New(%+v, %d, %d, %d) is %v, %d", c, n, of, at, w, e)
	}
	return twin{w, &model{c, n, of, at, nil}}
}

// alone is the worker of all groups.
func alone(t *testing.T, c api.Config, at int64) twin {
	t.Helper()
	return newTwin(t, c, 0, 1, at)
}

// copied is a copy of both.
func (w twin) copied(t *testing.T) twin {
	t.Helper()
	other := w.w.Copy()
	if other == nil || other == w.w {
		t.Fatalf("Copy is %p of %p", other, w.w)
	}
	return twin{other, w.want.copied()}
}

// load loads keys into both.
func (w twin) load(t *testing.T, l ...api.KeyState) api.Errno {
	t.Helper()
	was := copied(l)
	got, want := w.w.Load(l...), w.want.load(l...)
	if got != want {
		t.Fatalf("%+v: Load(%+v) is %d, want %d", w.want.c, l, got, want)
	}
	if !sameKeys(l, was) {
		t.Fatalf("%+v were handed in, and are %+v then", was, l)
	}
	return got
}

// do hands messages to both, one behind the other, and tells all panes. What was answered is written over then, which nobody must mind.
func (w twin) do(t *testing.T, l ...api.Msg) []api.Pane {
	t.Helper()
	var all []api.Pane
	for _, x := range l {
		want, wantE := w.want.take(x)
		got, e := w.w.Take(x)
		if !slices.Equal(got, want) || e != wantE {
			t.Fatalf("%+v, %d of %d: Take(%+v) is\n%v, %d, want\n%v, %d", w.want.c, w.want.worker, w.want.workers, x, got, e, want, wantE)
		}
		if len(want) == 0 && got != nil {
			t.Fatalf("Take(%+v) is %#v, not none", x, got)
		}
		all = append(all, got...)
		overwrite(got)
	}
	return all
}

// wants hands messages to both, and holds the panes against what is wanted.
func (w twin) wants(t *testing.T, l []api.Msg, want ...api.Pane) {
	t.Helper()
	if got := w.do(t, l...); !slices.Equal(got, want) {
		t.Errorf("%+v tell\n%v, want\n%v", l, got, want)
	}
	w.same(t)
}

// refuses hands a message to both, and holds the error against what is wanted.
func (w twin) refuses(t *testing.T, x api.Msg, want api.Errno) {
	t.Helper()
	if l, e := w.w.Take(x); l != nil || e != want {
		t.Errorf("Take(%+v) is %v, %d, want %d", x, l, e, want)
	}
	w.do(t, x)
	w.same(t)
}

// same asks all that the worker tells.
func (w twin) same(t *testing.T) {
	t.Helper()
	m := w.want
	next, waits := w.w.Next()
	wantNext, wantWaits := m.next()
	if w.w.Mark() != m.mark || w.w.Outward() != m.outward() || next != wantNext || waits != wantWaits || w.w.Len() != len(m.keys) {
		t.Fatalf("Mark, Outward, Next, Len are %d, %d, %d, %t, %d, want %d, %d, %d, %t, %d", w.w.Mark(), w.w.Outward(), next, waits, w.w.Len(), m.mark, m.outward(), wantNext, wantWaits, len(m.keys))
	}
	if got := w.w.Keys(); !sameKeys(got, m.keys) {
		t.Fatalf("Keys are\n%+v, want\n%+v", got, m.keys)
	}
	names := []string{"", "a", "nobody", strings.Repeat("x", 256), strings.Repeat("x", 257)}
	for _, k := range m.keys {
		names = append(names, k.Key)
	}
	for _, name := range names {
		k, found := w.w.Key(name)
		if want, wantFound := m.key(name); !sameKey(k, want) || found != wantFound {
			t.Fatalf("Key(%q) is %+v, %t, want %+v, %t", name, k, found, want, wantFound)
		}
	}
}

// stands holds Mark, Outward, Next and Len against what is wanted; no Next is 0.
func (w twin) stands(t *testing.T, at, outward, next int64, length int) {
	t.Helper()
	end, waits := w.w.Next()
	if w.w.Mark() != at || w.w.Outward() != outward || end != next || waits != (next != 0) || w.w.Len() != length {
		t.Errorf("Mark, Outward, Next, Len are %d, %d, %d, %t, %d, want %d, %d, %d, %d", w.w.Mark(), w.w.Outward(), end, waits, w.w.Len(), at, outward, next, length)
	}
	w.same(t)
}
