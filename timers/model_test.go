package timers_test

import (
	"math"
	"slices"
	"testing"

	"keepsake/api"
	"keepsake/timers"
)

const (
	least    = math.MinInt64
	greatest = math.MaxInt64
)

// one is the timer at, key [start, end).
func one(at int64, key string, start, end int64) api.Timer {
	return api.Timer{At: at, Key: key, Win: api.Span{Start: start, End: end}}
}

// pile is what timers are, as the chapter words it: those that were put in and not taken out since, however they lie.
type pile struct{ set []api.Timer }

func (p *pile) has(t api.Timer) bool { return slices.Contains(p.set, t) }

func (p *pile) put(t api.Timer) bool {
	if p.has(t) {
		return false
	}
	p.set = append(p.set, t)
	return true
}

func (p *pile) drop(t api.Timer) bool {
	was := p.has(t)
	p.set = slices.DeleteFunc(p.set, func(x api.Timer) bool { return x == t })
	return was
}

// inOrder are all of them: each time the one ahead of which no other one comes.
func (p *pile) inOrder() (l []api.Timer) {
	rest := slices.Clone(p.set)
	for len(rest) > 0 {
		first := 0
		for i := range rest {
			if isAhead(rest[i], rest[first]) {
				first = i
			}
		}
		l = append(l, rest[first])
		rest = slices.Delete(rest, first, first+1)
	}
	return l
}

func (p *pile) due(upto int64) (l []api.Timer) {
	for _, t := range p.inOrder() {
		if t.At <= upto {
			l = append(l, t)
			p.drop(t)
		}
	}
	return l
}

// isAhead tells whether the first one comes ahead of the second: by At; of one At by Key; of one key by the window's Start, then by its End.
func isAhead(a, b api.Timer) bool {
	switch {
	case a.At != b.At:
		return a.At < b.At
	case a.Key != b.Key:
		return slices.Compare([]byte(a.Key), []byte(b.Key)) < 0
	case a.Win.Start != b.Win.Start:
		return a.Win.Start < b.Win.Start
	}
	return a.Win.End < b.Win.End
}

// same holds all that is told of timers against what it should be, and of each of these timers whether it is set.
func same(t *testing.T, q *timers.Timers, want *pile, asked ...api.Timer) {
	t.Helper()
	l := want.inOrder()
	if n := q.Len(); n != len(l) {
		t.Fatalf("Len is %d, want %d", n, len(l))
	}
	if told := slices.Collect(q.All()); !slices.Equal(told, l) {
		t.Fatalf("All tells %v, want %v", told, l)
	}
	var first api.Timer
	if len(l) > 0 {
		first = l[0]
	}
	if x, ok := q.Next(); x != first || ok != (len(l) > 0) {
		t.Fatalf("Next is %v %t, want %v", x, ok, first)
	}
	for _, x := range slices.Concat(l, asked) {
		if ok := q.Has(x); ok != want.has(x) {
			t.Fatalf("Has(%v) is %t", x, ok)
		}
	}
}

// twin is timers with what they should be.
type twin struct {
	q    *timers.Timers
	want *pile
}

// newTwin are timers with these set.
func newTwin(list ...api.Timer) twin {
	w := twin{timers.New(list...), new(pile)}
	for _, x := range list {
		w.want.put(x)
	}
	return w
}

func (w twin) set(t *testing.T, x api.Timer) {
	t.Helper()
	want := w.want.put(x)
	if ok, e := w.q.Set(x); ok != want || e != api.OK {
		t.Fatalf("Set(%v) is %t %v, want %t", x, ok, e, want)
	}
}

func (w twin) drop(t *testing.T, x api.Timer) {
	t.Helper()
	want := w.want.drop(x)
	if ok := w.q.Drop(x); ok != want {
		t.Fatalf("Drop(%v) is %t, want %t", x, ok, want)
	}
}

func (w twin) move(t *testing.T, from, to api.Timer) {
	t.Helper()
	want := w.want.drop(from)
	w.want.put(to)
	if ok, e := w.q.Move(from, to); ok != want || e != api.OK {
		t.Fatalf("Move(%v, %v) is %t %v, want %t", from, to, ok, e, want)
	}
}

func (w twin) due(t *testing.T, upto int64) {
	t.Helper()
	want := w.want.due(upto)
	if l := w.q.Due(upto); !slices.Equal(l, want) {
		t.Fatalf("Due(%d) is %v, want %v", upto, l, want)
	}
}

func (w twin) copied() twin { return twin{w.q.Copy(), &pile{slices.Clone(w.want.set)}} }

func (w twin) same(t *testing.T, asked ...api.Timer) {
	t.Helper()
	same(t, w.q, w.want, asked...)
}

// orders calls f with each order of a list.
func orders(list []api.Timer, f func(l []api.Timer)) {
	l := slices.Clone(list)
	var swap func(i int)
	swap = func(i int) {
		if i == len(l) {
			f(l)
			return
		}
		for j := i; j < len(l); j++ {
			l[i], l[j] = l[j], l[i]
			swap(i + 1)
			l[i], l[j] = l[j], l[i]
		}
	}
	swap(0)
}

// nearly are timers that differ from one in one field alone.
func nearly(x api.Timer) []api.Timer {
	at, key, start, end := x, x, x, x
	at.At++
	key.Key += "\x00"
	start.Win.Start++
	end.Win.End++
	return []api.Timer{at, key, start, end}
}
