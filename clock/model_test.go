package clock_test

import (
	"math"
	"slices"
	"testing"

	"keepsake/api"
	"keepsake/clock"
)

const (
	least    = math.MinInt64
	greatest = math.MaxInt64
)

// noTimes are numbers that are no times: one past the edges, and as far as numbers go.
var noTimes = []int64{least, api.MinTime - 1, api.MaxTime + 1, greatest}

// held is a name with the time at which it holds a clock.
type held struct {
	name string
	time int64
}

// model is what a clock is, as the chapter words it: the sources' marks, and the holds in whatever order they came.
type model struct {
	marks []int64
	holds []held
}

func isTime(t int64) bool { return t >= -1<<62 && t <= 1<<62 }

func (m *model) mark() int64 {
	low := m.marks[0]
	for _, x := range m.marks {
		if x < low {
			low = x
		}
	}
	return low
}

func (m *model) set(source int, time int64) (int64, int64, api.Errno) {
	if source < 0 || source > len(m.marks)-1 || !isTime(time) {
		return 0, 0, api.ErrItem
	}
	ahead := m.mark()
	if time > m.marks[source] {
		m.marks[source] = time
	}
	return ahead, m.mark(), api.OK
}

func (m *model) hold(name string, time int64) api.Errno {
	if !isTime(time) {
		return api.ErrArg
	}
	m.free(name)
	m.holds = append(m.holds, held{name, time})
	return api.OK
}

func (m *model) free(name string) bool {
	for i, h := range m.holds {
		if h.name == name {
			m.holds = slices.Delete(m.holds, i, i+1)
			return true
		}
	}
	return false
}

// rising are the holds, each time the one whose name no other one comes ahead of.
func (m *model) rising() (l []held) {
	rest := slices.Clone(m.holds)
	for len(rest) > 0 {
		first := 0
		for i := range rest {
			if isAhead(rest[i].name, rest[first].name) {
				first = i
			}
		}
		l = append(l, rest[first])
		rest = slices.Delete(rest, first, first+1)
	}
	return l
}

// isAhead tells whether a text comes ahead of another one, by their bytes.
func isAhead(a, b string) bool { return slices.Compare([]byte(a), []byte(b)) < 0 }

func (m *model) first() (h held, ok bool) {
	for _, x := range m.rising() {
		if !ok || x.time < h.time {
			h, ok = x, true
		}
	}
	return h, ok
}

func (m *model) outward() int64 {
	low := m.mark()
	for _, h := range m.holds {
		if h.time < low {
			low = h.time
		}
	}
	return low
}

// told is what a loop over a clock's holds tells.
func told(c *clock.Clock) (l []held) {
	for name, time := range c.Holds() {
		l = append(l, held{name, time})
	}
	return l
}

// twin is a clock with what it should be.
type twin struct {
	c    *clock.Clock
	want *model
}

// twinOf is a clock with these marks.
func twinOf(t *testing.T, marks ...int64) twin {
	t.Helper()
	c, e := clock.Of(marks...)
	if c == nil || e != api.OK {
		t.Fatalf("Of(%v) is %v, %v", marks, c, e)
	}
	return twin{c, &model{marks: slices.Clone(marks)}}
}

func (w twin) copied(t *testing.T) twin {
	t.Helper()
	c := w.c.Copy()
	if c == nil || c == w.c {
		t.Fatal("the copy is not there, or the clock itself")
	}
	return twin{c, &model{slices.Clone(w.want.marks), slices.Clone(w.want.holds)}}
}

func (w twin) set(t *testing.T, source int, time int64) {
	t.Helper()
	from, to, err := w.want.set(source, time)
	if a, b, e := w.c.Set(source, time); a != from || b != to || e != err {
		t.Fatalf("Set(%d, %d) is %d, %d, %v, want %d, %d, %v", source, time, a, b, e, from, to, err)
	}
}

func (w twin) hold(t *testing.T, name string, time int64) {
	t.Helper()
	err := w.want.hold(name, time)
	if e := w.c.Hold(name, time); e != err {
		t.Fatalf("Hold(%q, %d) is %v, want %v", name, time, e, err)
	}
}

func (w twin) free(t *testing.T, name string) {
	t.Helper()
	want := w.want.free(name)
	if ok := w.c.Free(name); ok != want {
		t.Fatalf("Free(%q) is %t", name, ok)
	}
}

// same holds all that the clock tells against what it should be.
func (w twin) same(t *testing.T) {
	t.Helper()
	if x, want := w.c.Mark(), w.want.mark(); x != want {
		t.Fatalf("Mark is %d, want %d", x, want)
	}
	if l := w.c.Marks(); !slices.Equal(l, w.want.marks) {
		t.Fatalf("Marks are %v, want %v", l, w.want.marks)
	}
	if x, want := w.c.Outward(), w.want.outward(); x != want {
		t.Fatalf("Outward is %d, want %d", x, want)
	}
	if n := w.c.Len(); n != len(w.want.holds) {
		t.Fatalf("Len is %d, want %d", n, len(w.want.holds))
	}
	first, there := w.want.first()
	if name, time, ok := w.c.First(); name != first.name || time != first.time || ok != there {
		t.Fatalf("First is %q, %d, %t, want %v", name, time, ok, first)
	}
	if l, want := told(w.c), w.want.rising(); !slices.Equal(l, want) {
		t.Fatalf("Holds tells %v, want %v", l, want)
	}
}

// orders calls f with each order of a list.
func orders[T any](list []T, f func(l []T)) {
	l := slices.Clone(list)
	var swap func(i int)
	swap = func(i int) {
		if i == len(l) {
			f(l)
			return
		}
		for j := i; j < len(l); j++ {
			l[i], l[j] = l[j], l[i]
			swap(i + 1)
			l[i], l[j] = l[j], l[i]
		}
	}
	swap(0)
}
