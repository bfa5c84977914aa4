package plain_test

import (
	"hash/fnv"
	"math"
	"slices"
	"strings"
	"testing"

	"keepsake/api"
	"keepsake/plain"
)

// What DOC.md says under 'What an item does', done to lists that are looked through from end to end.

const (
	least    = math.MinInt64
	greatest = math.MaxInt64
	minTime  = -1 << 62
	maxTime  = 1 << 62
	most     = 1 << 53
)

func span(start, end int64) api.Span { return api.Span{Start: start, End: end} }

func tally(count, sum, low, high int64) api.Tally {
	return api.Tally{Count: count, Sum: sum, Min: low, Max: high}
}

// win is a window: its span, its tally, Since, Panes, Hold.
func win(start, end, count, sum, low, high, since, panes, hold int64) api.Win {
	return api.Win{Span: span(start, end), Hold: hold, Tally: tally(count, sum, low, high), Since: since, Panes: panes}
}

func pane(key string, start, end int64, kind api.PaneKind, nth, count, sum, low, high int64) api.Pane {
	return api.Pane{Key: key, Span: span(start, end), Kind: kind, Nth: nth, Tally: tally(count, sum, low, high)}
}

func panes(l ...api.Pane) []api.Pane { return l }

func event(key string, at, v int64) api.Item {
	return api.Item{Kind: api.ItemEvent, Key: key, Time: at, Value: v}
}

// mark is a mark of the source 0.
func mark(at int64) api.Item { return markOf(0, at) }

func markOf(source int, at int64) api.Item {
	return api.Item{Kind: api.ItemMark, Source: source, Time: at}
}

func save() api.Item { return api.Item{Kind: api.ItemSave} }

func items(l ...api.Item) []api.Item { return l }

func key(name string, dropped int64, l ...api.Win) api.KeyState {
	return api.KeyState{Key: name, Dropped: dropped, Windows: l}
}

func state(c api.Config, marks []int64, keys ...api.KeyState) api.State {
	return api.State{Config: c, Marks: marks, Keys: keys}
}

// example is the job T of the chapter.
func example() api.Config {
	return api.Config{Groups: 4, Sources: 1, Kind: api.Tumbling, Size: 10, Offset: 3, Late: 5}
}

// tumbling has windows of 10 from 0 on.
func tumbling() api.Config {
	return api.Config{Groups: 4, Sources: 1, Kind: api.Tumbling, Size: 10, Late: 5}
}

// sliding has windows of 10 that lie 5 apart.
func sliding() api.Config {
	return api.Config{Groups: 4, Sources: 1, Kind: api.Sliding, Size: 10, Slide: 5, Late: 5}
}

func session() api.Config {
	return api.Config{Groups: 4, Sources: 1, Kind: api.Session, Gap: 10, Late: 100}
}

func kinds() []api.Config { return []api.Config{example(), tumbling(), sliding(), session()} }

// with is a job with Early and Discard.
func with(c api.Config, early int, discard bool) api.Config {
	c.Early, c.Discard = early, discard
	return c
}

func sameKey(a, b api.KeyState) bool {
	return a.Key == b.Key && a.Dropped == b.Dropped && slices.Equal(a.Windows, b.Windows)
}

func sameState(a, b api.State) bool {
	return a.Config == b.Config && slices.Equal(a.Marks, b.Marks) && slices.EqualFunc(a.Keys, b.Keys, sameKey)
}

func sameStates(a, b []api.State) bool { return slices.EqualFunc(a, b, sameState) }

// copied is a state in memory of its own.
func copied(s api.State) api.State {
	s.Marks, s.Keys = slices.Clone(s.Marks), slices.Clone(s.Keys)
	for i, k := range s.Keys {
		s.Keys[i].Key, s.Keys[i].Windows = strings.Clone(k.Key), slices.Clone(k.Windows)
	}
	return s
}

// model is a job: a state, and what was done, told and saved.
type model struct {
	api.State
	done  int
	panes []api.Pane
	saved []api.State
}

func modelOf(s api.State) *model { return &model{State: copied(s)} }

// begin is a job's state ahead of all items.
func begin(c api.Config) api.State {
	return state(c, slices.Repeat([]int64{minTime}, c.Sources))
}

func (m *model) copied() *model {
	return &model{copied(m.State), m.done, slices.Clone(m.panes), slices.Clone(m.saved)}
}

func (m *model) watermark() int64 { return slices.Min(m.Marks) }

// out is the least of the watermark and of the Holds of the windows that are not due.
func (m *model) out() int64 {
	l := []int64{m.watermark()}
	for _, k := range m.Keys {
		for _, x := range k.Windows {
			if x.End > m.watermark() {
				l = append(l, x.Hold)
			}
		}
	}
	return slices.Min(l)
}

// key is a key's state, its group, and whether it is there.
func (m *model) key(name string) (api.KeyState, int, bool) {
	if len(name) > 256 {
		return api.KeyState{}, 0, false
	}
	h := fnv.New32a()
	h.Write([]byte(name))
	group := int(uint64(h.Sum32()) % uint64(m.Config.Groups))
	for _, k := range m.Keys {
		if k.Key == name {
			return k, group, true
		}
	}
	return api.KeyState{Key: name}, group, false
}

func (m *model) mayBe(x api.Item) bool {
	timely := x.Time >= minTime && x.Time <= maxTime
	switch x.Kind {
	case 1:
		return len(x.Key) <= 256 && timely && x.Source == 0
	case 2:
		return x.Source >= 0 && x.Source < m.Config.Sources && timely && x.Key == "" && x.Value == 0
	case 3:
		return x.Key == "" && x.Time == 0 && x.Value == 0 && x.Source == 0
	}
	return false
}

// items does all of them, or none.
func (m *model) items(l ...api.Item) ([]api.Pane, api.Errno) {
	for _, x := range l {
		if !m.mayBe(x) {
			return nil, 5
		}
	}
	told := len(m.panes)
	for _, x := range l {
		m.done++
		switch x.Kind {
		case api.ItemEvent:
			m.event(x)
		case api.ItemMark:
			m.mark(x)
		case api.ItemSave:
			m.saved = append(m.saved, copied(m.State))
		}
	}
	return slices.Clone(m.panes[told:]), 0
}

// tell tells a window's pane.
func (m *model) tell(name string, x *api.Win, kind api.PaneKind) {
	m.panes = append(m.panes, api.Pane{Key: name, Span: x.Span, Kind: kind, Nth: x.Panes, Tally: x.Tally})
	x.Panes, x.Since = min(x.Panes+1, most), 0
	if m.Config.Discard {
		x.Tally = api.Tally{}
	}
}

func (m *model) expired(s api.Span) bool { return s.End+m.Config.Late <= m.watermark() }

// event does an event.
func (m *model) event(x api.Item) {
	k, _, found := m.key(x.Key)
	k.Windows = slices.Clone(k.Windows)
	dropped := true
	for _, s := range m.falls(k, x.Time) {
		if m.expired(s) {
			continue
		}
		dropped = false
		m.into(&k, s, x)
	}
	if dropped {
		k.Dropped = min(k.Dropped+1, most)
	}
	if found {
		m.Keys = slices.DeleteFunc(m.Keys, func(y api.KeyState) bool { return y.Key == k.Key })
	}
	m.Keys = append(m.Keys, k)
	slices.SortFunc(m.Keys, func(a, b api.KeyState) int { return strings.Compare(a.Key, b.Key) })
}

// into puts an event into one window: steps 1 to 3.
func (m *model) into(k *api.KeyState, s api.Span, x api.Item) {
	w := m.watermark()
	now := max(x.Time, w)
	laid := api.Win{Span: s, Hold: now}
	var others []api.Win
	for _, y := range k.Windows {
		switch {
		case m.Config.Kind == api.Session && overlap(y.Span, span(x.Time, x.Time+m.Config.Gap)):
			laid.Tally = both(laid.Tally, y.Tally)
			laid.Since, laid.Panes = min(laid.Since+y.Since, most), min(laid.Panes+y.Panes, most)
			if y.End > w {
				laid.Hold = min(laid.Hold, y.Hold)
			}
		case m.Config.Kind != api.Session && y.Span == s:
			laid = y
		default:
			others = append(others, y)
		}
	}
	laid.Tally = both(laid.Tally, tally(1, x.Value, x.Value, x.Value))
	laid.Since = min(laid.Since+1, most)
	laid.Hold = min(laid.Hold, now)
	if laid.End <= w {
		m.tell(k.Key, &laid, api.Late)
	} else if m.Config.Early != 0 && laid.Since >= int64(m.Config.Early) {
		m.tell(k.Key, &laid, api.Early)
	}
	k.Windows = append(others, laid)
	slices.SortFunc(k.Windows, func(a, b api.Win) int { return compare(a.Start, b.Start, a.End, b.End) })
}

// falls are the windows into which an event falls.
func (m *model) falls(k api.KeyState, t int64) []api.Span {
	c := m.Config
	if c.Kind == api.Session {
		all := span(t, t+c.Gap)
		for _, x := range k.Windows {
			if overlap(x.Span, span(t, t+c.Gap)) {
				all = span(min(all.Start, x.Start), max(all.End, x.End))
			}
		}
		return []api.Span{all}
	}
	apart := c.Slide
	if c.Kind == api.Tumbling {
		apart = c.Size
	}
	rest := ((t-c.Offset)%apart + apart) % apart
	var l []api.Span
	for a := t - rest; a+c.Size > t; a -= apart {
		l = append(l, span(a, a+c.Size))
	}
	slices.Reverse(l)
	return l
}

// mark does a mark.
func (m *model) mark(x api.Item) {
	w0 := m.watermark()
	m.Marks[x.Source] = max(m.Marks[x.Source], x.Time)
	w1 := m.watermark()
	if w1 == w0 {
		return
	}
	type place struct{ key, window int }
	var due []place
	for i, k := range m.Keys {
		for n, y := range k.Windows {
			if w0 < y.End && y.End <= w1 {
				due = append(due, place{i, n})
			}
		}
	}
	slices.SortFunc(due, func(a, b place) int {
		x, y := m.Keys[a.key].Windows[a.window], m.Keys[b.key].Windows[b.window]
		return compare(x.End, y.End, int64(a.key), int64(b.key), x.Start, y.Start)
	})
	for _, p := range due {
		m.tell(m.Keys[p.key].Key, &m.Keys[p.key].Windows[p.window], api.OnTime)
	}
	var left []api.KeyState
	for _, k := range m.Keys {
		k.Windows = slices.DeleteFunc(slices.Clone(k.Windows), func(y api.Win) bool { return m.expired(y.Span) })
		if len(k.Windows) > 0 || k.Dropped > 0 {
			left = append(left, k)
		}
	}
	m.Keys = left
}

// overlap tells whether some time lies in both.
func overlap(a, b api.Span) bool { return max(a.Start, b.Start) < min(a.End, b.End) }

// both are two tallies put together; one without values is nothing.
func both(a, b api.Tally) api.Tally {
	if a.Count == 0 && b.Count == 0 {
		return api.Tally{}
	}
	if a.Count == 0 {
		return b
	}
	if b.Count == 0 {
		return a
	}
	return tally(min(a.Count+b.Count, most), int64(uint64(a.Sum)+uint64(b.Sum)), min(a.Min, b.Min), max(a.Max, b.Max))
}

// compare holds numbers against each other, two by two.
func compare(l ...int64) int {
	for i := 0; i < len(l); i += 2 {
		if l[i] != l[i+1] {
			if l[i] < l[i+1] {
				return -1
			}
			return 1
		}
	}
	return 0
}

// twin is a job and what it must be.
type twin struct {
	j    *plain.Job
	want *model
}

// newTwin is a job of New.
func newTwin(t *testing.T, c api.Config) twin {
	t.Helper()
	j, e := plain.New(c)
	if j == nil || e != api.OK {
		t.Fatalf("New(%+v) is %v, %d", c, j, e)
	}
	return twin{j, modelOf(begin(c))}
}

// fromTwin is a job of From.
func fromTwin(t *testing.T, s api.State) twin {
	t.Helper()
	j, e := plain.From(s)
	if j == nil || e != api.OK {
		t.Fatalf("From(%+v) is %v, %d", s, j, e)
	}
	return twin{j, modelOf(s)}
}

// copied is a copy of both.
func (w twin) copied(t *testing.T) twin {
	t.Helper()
	j := w.j.Copy()
	if j == nil || j == w.j {
		t.Fatalf("Copy is %p of %p", j, w.j)
	}
	return twin{j, w.want.copied()}
}

// do does items on both, in one call.
func (w twin) do(t *testing.T, l ...api.Item) []api.Pane {
	t.Helper()
	was := slices.Clone(l)
	var got []api.Pane
	var e api.Errno
	if len(l) == 1 && w.want.done%2 == 0 {
		got, e = w.j.Item(l[0])
	} else {
		got, e = w.j.Items(l...)
	}
	want, wantE := w.want.items(l...)
	if !slices.Equal(got, want) || e != wantE {
		t.Fatalf("%+v: %v tell\n%v, %d, want\n%v, %d", w.want.Config, l, got, e, want, wantE)
	}
	if !slices.Equal(l, was) {
		t.Fatalf("%v were handed in, and are %v then", was, l)
	}
	return got
}

// same asks all that the job tells.
func (w twin) same(t *testing.T) {
	t.Helper()
	j, m := w.j, w.want
	if j.Config() != m.Config || j.Done() != m.done || j.Mark() != m.watermark() || j.Out() != m.out() {
		t.Fatalf("Config, Done, Mark, Out are %+v, %d, %d, %d, want %+v, %d, %d, %d", j.Config(), j.Done(), j.Mark(), j.Out(), m.Config, m.done, m.watermark(), m.out())
	}
	if got := j.State(); !sameState(got, m.State) {
		t.Fatalf("State is\n%+v, want\n%+v", got, m.State)
	}
	if got := j.Panes(); !slices.Equal(got, m.panes) {
		t.Fatalf("Panes are\n%v, want\n%v", got, m.panes)
	}
	if got := j.Saved(); !sameStates(got, m.saved) {
		t.Fatalf("Saved are\n%+v, want\n%+v", got, m.saved)
	}
	names := []string{"", "a", "nobody", strings.Repeat("x", 256), strings.Repeat("x", 257)}
	for _, k := range m.Keys {
		names = append(names, k.Key)
	}
	for _, name := range names {
		k, group, found := j.Key(name)
		if want, wantGroup, wantFound := m.key(name); !sameKey(k, want) || group != wantGroup || found != wantFound {
			t.Fatalf("Key(%q) is %+v, %d, %t, want %+v, %d, %t", name, k, group, found, want, wantGroup, wantFound)
		}
	}
}
