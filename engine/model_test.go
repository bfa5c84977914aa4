package engine_test

import (
	"hash/fnv"
	"math"
	"slices"
	"strings"
	"testing"

	"keepsake/api"
	"keepsake/engine"
	"keepsake/plain"
)

// What the chapter says, done to lists that are never cut: each worker is a plain job of its own, which does just that worker's items.

const (
	least    = math.MinInt64
	greatest = math.MaxInt64
	minTime  = -1 << 62
	maxTime  = 1 << 62
	maxSpan  = 1 << 40
	most     = 1 << 53
)

// win is a window: its span, its tally, Since, Panes, Hold.
func win(start, end, count, sum, low, high, since, panes, hold int64) api.Win {
	return api.Win{Span: api.Span{Start: start, End: end}, Hold: hold, Tally: api.Tally{Count: count, Sum: sum, Min: low, Max: high}, Since: since, Panes: panes}
}

// one is a window with one value, 1, that has told no pane.
func one(start, end, hold int64) api.Win { return win(start, end, 1, 1, 1, 1, 1, 0, hold) }

func pane(key string, start, end int64, kind api.PaneKind, nth, count, sum, low, high int64) api.Pane {
	return api.Pane{Key: key, Span: api.Span{Start: start, End: end}, Kind: kind, Nth: nth, Tally: api.Tally{Count: count, Sum: sum, Min: low, Max: high}}
}

// onTime is the first pane of a window of one.
func onTime(key string, start, end int64) api.Pane {
	return pane(key, start, end, api.OnTime, 0, 1, 1, 1, 1)
}

func panes(l ...api.Pane) []api.Pane { return l }

// by is a pane with the worker and the item that told it.
func by(worker, item int, p api.Pane) api.Told {
	return api.Told{Worker: worker, Item: item, Pane: p}
}

func event(key string, at, v int64) api.Item {
	return api.Item{Kind: api.ItemEvent, Key: key, Time: at, Value: v}
}

// mark is a mark of the source 0.
func mark(at int64) api.Item { return markOf(0, at) }

func markOf(source int, at int64) api.Item {
	return api.Item{Kind: api.ItemMark, Source: source, Time: at}
}

func save() api.Item { return api.Item{Kind: api.ItemSave} }

func items(l ...api.Item) []api.Item { return l }

func key(name string, dropped int64, l ...api.Win) api.KeyState {
	return api.KeyState{Key: name, Dropped: dropped, Windows: l}
}

func state(c api.Config, marks []int64, keys ...api.KeyState) api.State {
	return api.State{Config: c, Marks: marks, Keys: keys}
}

// begin is a job's state ahead of all items.
func begin(c api.Config) api.State {
	return state(c, slices.Repeat([]int64{minTime}, c.Sources))
}

// example is the job T of the chapter: of its keys a, b, c, d the groups are 0, 1, 2, 3. Of two workers the worker 0 has a and b, the worker 1 c and d.
func example() api.Config {
	return api.Config{Groups: 4, Sources: 1, Kind: api.Tumbling, Size: 10, Offset: 3, Late: 5}
}

// sources is that job with more sources.
func sources(n int) api.Config {
	c := example()
	c.Sources = n
	return c
}

// sliding has windows of 10 that lie 5 apart.
func sliding() api.Config {
	return api.Config{Groups: 4, Sources: 1, Kind: api.Sliding, Size: 10, Slide: 5, Late: 5}
}

func session() api.Config {
	return api.Config{Groups: 4, Sources: 1, Kind: api.Session, Gap: 10, Late: 100}
}

func kinds() []api.Config { return []api.Config{example(), sliding(), session()} }

// with is a job with Early and Discard.
func with(c api.Config, early int, discard bool) api.Config {
	c.Early, c.Discard = early, discard
	return c
}

func sameKey(a, b api.KeyState) bool {
	return a.Key == b.Key && a.Dropped == b.Dropped && slices.Equal(a.Windows, b.Windows)
}

func sameState(a, b api.State) bool {
	return a.Config == b.Config && slices.Equal(a.Marks, b.Marks) && slices.EqualFunc(a.Keys, b.Keys, sameKey)
}

// copied is a state in memory of its own.
func copied(s api.State) api.State {
	s.Marks, s.Keys = slices.Clone(s.Marks), slices.Clone(s.Keys)
	for i, k := range s.Keys {
		s.Keys[i].Key, s.Keys[i].Windows = strings.Clone(k.Key), slices.Clone(k.Windows)
	}
	return s
}

// model is an engine: where it began, all items that were fed, of each worker the numbers of its items and the job that does them, and what was told.
type model struct {
	begun api.State
	items []api.Item
	lists [][]int
	jobs  []*plain.Job
	told  []api.Told
}

// modelOf is an engine that stands at a state.
func modelOf(s api.State, workers int) *model {
	m := &model{begun: copied(s), lists: make([][]int, workers)}
	for n := range workers {
		part := copied(s)
		part.Keys = slices.DeleteFunc(part.Keys, func(k api.KeyState) bool { return owner(k.Key, workers, s.Config.Groups) != n })
		j, e := plain.From(part)
		if e != api.OK {
			panic(e)
		}
		m.jobs = append(m.jobs, j)
	}
	return m
}

// owner is the first worker whose groups end behind the key's.
func owner(name string, workers, groups int) int {
	h := fnv.New32a()
	h.Write([]byte(name))
	group := int(uint64(h.Sum32()) % uint64(groups))
	n := 0
	for group >= (n+1)*groups/workers {
		n++
	}
	return n
}

func (m *model) copied() *model {
	other := &model{begun: m.begun, items: slices.Clone(m.items), told: slices.Clone(m.told)}
	for n, j := range m.jobs {
		other.lists = append(other.lists, slices.Clone(m.lists[n]))
		other.jobs = append(other.jobs, j.Copy())
	}
	return other
}

func (m *model) mayBe(x api.Item) bool {
	timely := x.Time >= minTime && x.Time <= maxTime
	switch x.Kind {
	case 1:
		return len(x.Key) <= 256 && timely && x.Source == 0
	case 2:
		return x.Source >= 0 && x.Source < m.begun.Config.Sources && timely && x.Key == "" && x.Value == 0
	case 3:
		return x == api.Item{Kind: 3}
	}
	return false
}

func (m *model) feed(l ...api.Item) api.Errno {
	for _, x := range l {
		if !m.mayBe(x) {
			return 5
		}
	}
	for _, x := range l {
		for n := range m.lists {
			if x.Kind != 1 || owner(x.Key, len(m.lists), m.begun.Config.Groups) == n {
				m.lists[n] = append(m.lists[n], len(m.items))
			}
		}
		m.items = append(m.items, x)
	}
	return 0
}

func (m *model) todo(n int) int {
	if n < 0 || n >= len(m.lists) {
		return 0
	}
	return len(m.lists[n]) - m.jobs[n].Done()
}

func (m *model) step(n int) (bool, api.Errno) {
	if n < 0 || n >= len(m.lists) {
		return false, 2
	}
	if m.todo(n) == 0 {
		return false, 0
	}
	item := m.lists[n][m.jobs[n].Done()]
	l, e := m.jobs[n].Item(m.items[item])
	if e != api.OK {
		panic(e)
	}
	for _, p := range l {
		m.told = append(m.told, by(n, item, p))
	}
	return true, 0
}

func (m *model) drain() {
	for n := range m.lists {
		for m.todo(n) > 0 {
			m.step(n)
		}
	}
}

func (m *model) panes(name string) (l []api.Pane) {
	for _, x := range m.told {
		if x.Pane.Key == name {
			l = append(l, x.Pane)
		}
	}
	return l
}

func (m *model) out() int64 {
	out := int64(greatest)
	for _, j := range m.jobs {
		out = min(out, j.Out())
	}
	return out
}

// gathered is the state of the marks that stand behind so many items, and of keys.
func (m *model) gathered(upto int, keys []api.KeyState) api.State {
	s := copied(m.begun)
	for _, x := range m.items[:upto] {
		if x.Kind == 2 {
			s.Marks[x.Source] = max(s.Marks[x.Source], x.Time)
		}
	}
	slices.SortFunc(keys, func(a, b api.KeyState) int { return strings.Compare(a.Key, b.Key) })
	s.Keys = keys
	return s
}

func (m *model) state() (api.State, api.Errno) {
	var keys []api.KeyState
	for n, j := range m.jobs {
		if m.todo(n) > 0 {
			return api.State{}, 270
		}
		keys = append(keys, j.State().Keys...)
	}
	return m.gathered(len(m.items), keys), 0
}

// fedSaves are the numbers of all saves that were fed.
func (m *model) fedSaves() (l []int) {
	for i, x := range m.items {
		if x.Kind == 3 {
			l = append(l, i)
		}
	}
	return l
}

func (m *model) saves() int {
	done := len(m.items)
	for _, j := range m.jobs {
		done = min(done, len(j.Saved()))
	}
	return done
}

func (m *model) saved(n int) (api.State, api.Errno) {
	fed := m.fedSaves()
	if n < 0 || n >= len(fed) {
		return api.State{}, 2
	}
	var keys []api.KeyState
	for _, j := range m.jobs {
		l := j.Saved()
		if n >= len(l) {
			return api.State{}, 270
		}
		keys = append(keys, l[n].Keys...)
	}
	return m.gathered(fed[n], keys), 0
}

// twin is an engine and what it must be.
type twin struct {
	e    *engine.Engine
	want *model
}

// newTwin is an engine of New.
func newTwin(t *testing.T, c api.Config, workers int) twin {
	t.Helper()
	e, err := engine.New(c, workers)
	if e == nil || err != api.OK {
		t.Fatalf("New(%+v, %d) is %v, %d", c, workers, e, err)
	}
	return twin{e, modelOf(begin(c), workers)}
}

// fromTwin is an engine of From.
func fromTwin(t *testing.T, s api.State, workers int) twin {
	t.Helper()
	was := copied(s)
	e, err := engine.From(s, workers)
	if e == nil || err != api.OK {
		t.Fatalf("From(%+v, %d) is %v, %d", s, workers, e, err)
	}
	if !sameState(s, was) {
		t.Fatalf("%+v was handed in, and is %+v then", was, s)
	}
	return twin{e, modelOf(s, workers)}
}

// copied is a copy of both.
func (w twin) copied(t *testing.T) twin {
	t.Helper()
	e := w.e.Copy()
	if e == nil || e == w.e {
		t.Fatalf("Copy is %p of %p", e, w.e)
	}
	return twin{e, w.want.copied()}
}

// feed feeds items to both, in one call.
func (w twin) feed(t *testing.T, l ...api.Item) api.Errno {
	t.Helper()
	was := slices.Clone(l)
	got, want := w.e.Feed(l...), w.want.feed(l...)
	if got != want {
		t.Fatalf("%+v: Feed(%+v) is %d, want %d", w.want.begun.Config, l, got, want)
	}
	if !slices.Equal(l, was) {
		t.Fatalf("%+v were handed in, and are %+v then", was, l)
	}
	return got
}

// step lets a worker of both go on.
func (w twin) step(t *testing.T, n int) bool {
	t.Helper()
	got, e := w.e.Step(n)
	if want, wantE := w.want.step(n); got != want || e != wantE {
		t.Fatalf("%d workers: Step(%d) is %t, %d, want %t, %d", len(w.want.lists), n, got, e, want, wantE)
	}
	return got
}

// picks lets workers of both go on, in one call.
func (w twin) picks(t *testing.T, l ...int) int {
	t.Helper()
	was := slices.Clone(l)
	want := 0
	for _, n := range l {
		if ok, _ := w.want.step(n); ok {
			want++
		}
	}
	got := w.e.Picks(l...)
	if got != want {
		t.Fatalf("%d workers: Picks(%v) is %d, want %d", len(w.want.lists), l, got, want)
	}
	if !slices.Equal(l, was) {
		t.Fatalf("%v were handed in, and are %v then", was, l)
	}
	return got
}

// drain drains both.
func (w twin) drain(t *testing.T) {
	t.Helper()
	w.want.drain()
	if e := w.e.Drain(); e != api.OK {
		t.Fatalf("Drain is %d", e)
	}
}

// same asks all that the engine tells.
func (w twin) same(t *testing.T) {
	t.Helper()
	e, m := w.e, w.want
	if e.Config() != m.begun.Config || e.Workers() != len(m.lists) || e.Fed() != len(m.items) || e.Out() != m.out() {
		t.Fatalf("Config, Workers, Fed, Out are %+v, %d, %d, %d, want %+v, %d, %d, %d", e.Config(), e.Workers(), e.Fed(), e.Out(), m.begun.Config, len(m.lists), len(m.items), m.out())
	}
	for n := -1; n <= len(m.lists); n++ {
		if got := e.ToDo(n); got != m.todo(n) {
			t.Fatalf("ToDo(%d) is %d, want %d", n, got, m.todo(n))
		}
	}
	if got := e.Told(); !slices.Equal(got, m.told) {
		t.Fatalf("Told are\n%v, want\n%v", got, m.told)
	}
	names := map[string]int{"": 1, "nobody": 1, strings.Repeat("x", 257): 1}
	for _, x := range m.items {
		names[x.Key] = 1
	}
	for name := range names {
		if got, want := e.Panes(name), m.panes(name); !slices.Equal(got, want) {
			t.Fatalf("Panes(%q) are\n%v, want\n%v", name, got, want)
		}
	}
	got, err := e.State()
	if want, wantE := m.state(); !sameState(got, want) || err != wantE {
		t.Fatalf("State is\n%+v, %d, want\n%+v, %d", got, err, want, wantE)
	}
	w.sameSaves(t)
}

// sameSaves asks what is told of saves.
func (w twin) sameSaves(t *testing.T) {
	t.Helper()
	if got, want := w.e.Saves(), w.want.saves(); got != want {
		t.Fatalf("Saves are %d, want %d", got, want)
	}
	for n := -1; n <= len(w.want.fedSaves())+1; n++ {
		got, e := w.e.Saved(n)
		if want, wantE := w.want.saved(n); !sameState(got, want) || e != wantE {
			t.Fatalf("Saved(%d) is\n%+v, %d, want\n%+v, %d", n, got, e, want, wantE)
		}
	}
}

// told holds what was told against what is wanted.
func (w twin) told(t *testing.T, want ...api.Told) {
	t.Helper()
	if got := w.e.Told(); !slices.Equal(got, want) {
		t.Errorf("Told are\n%v, want\n%v", got, want)
	}
	w.same(t)
}

// todo holds what the workers have to do against what is wanted.
func (w twin) todo(t *testing.T, want ...int) {
	t.Helper()
	var got []int
	for n := range w.e.Workers() {
		got = append(got, w.e.ToDo(n))
	}
	if !slices.Equal(got, want) {
		t.Errorf("the workers have %v to do, want %v", got, want)
	}
	w.same(t)
}

// stands holds the state against what is wanted.
func (w twin) stands(t *testing.T, want api.State) {
	t.Helper()
	if got, e := w.e.State(); !sameState(got, want) || e != api.OK {
		t.Errorf("State is\n%+v, %d, want\n%+v", got, e, want)
	}
	w.same(t)
}

// saved holds a save against what is wanted.
func (w twin) saved(t *testing.T, n int, want api.State) {
	t.Helper()
	if got, e := w.e.Saved(n); !sameState(got, want) || e != api.OK {
		t.Errorf("Saved(%d) is\n%+v, %d, want\n%+v", n, got, e, want)
	}
	w.same(t)
}

// notSaved holds what is told of saves that are not done against what is wanted.
func (w twin) notSaved(t *testing.T, saves int, want map[int]api.Errno) {
	t.Helper()
	if got := w.e.Saves(); got != saves {
		t.Errorf("Saves are %d, want %d", got, saves)
	}
	for n, wantE := range want {
		if s, e := w.e.Saved(n); !sameState(s, api.State{}) || e != wantE {
			t.Errorf("Saved(%d) is %+v, %d, want %d", n, s, e, wantE)
		}
	}
	w.same(t)
}
