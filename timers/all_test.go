package timers_test

import (
	"slices"
	"testing"

	"keepsake/api"
	"keepsake/timers"
)

// hours are timers at the times from 0 on up to below n.
func hours(n int) (l []api.Timer) {
	for i := range n {
		l = append(l, one(int64(i), "k", 0, 1))
	}
	return l
}

func TestAllLeftEarly(t *testing.T) {
	list := hours(20)
	w := newTwin(list...)
	for n := 1; n <= 20; n++ {
		var told []api.Timer
		for x := range w.q.All() {
			if told = append(told, x); len(told) == n {
				break
			}
		}
		if !slices.Equal(told, list[:n]) {
			t.Errorf("left behind %d: %v", n, told)
		}
	}
	w.same(t)
}

// Behind a yield that answers false none is told.
func TestAllStopsWhereItIsTold(t *testing.T) {
	calls := 0
	timers.New(hours(5)...).All()(func(api.Timer) bool { calls++; return false })
	if calls != 1 {
		t.Errorf("it goes on behind a false: %d calls", calls)
	}
}

func TestAllAgainAndAnew(t *testing.T) {
	q := timers.New()
	all := q.All()
	if l := slices.Collect(all); len(l) != 0 {
		t.Errorf("of none: %v", l)
	}
	list := hours(5)
	for i, x := range slices.Backward(list) {
		q.Set(x)
		for range 2 {
			if l := slices.Collect(all); !slices.Equal(l, list[i:]) {
				t.Errorf("behind Set(%v): %v", x, l)
			}
		}
	}
	q.Due(2)
	q.Move(list[3], one(9, "z", 0, 1))
	if l := slices.Collect(all); !slices.Equal(l, []api.Timer{list[4], one(9, "z", 0, 1)}) {
		t.Errorf("behind Due and Move: %v", l)
	}
}

// Whatever is done with the timers while they are gone over, those are told that were set when it began.
func TestAllWhileTheyAreChanged(t *testing.T) {
	list := hours(30)
	for name, do := range map[string]func(q *timers.Timers, x api.Timer){
		"drop it":      func(q *timers.Timers, x api.Timer) { q.Drop(x) },
		"drop another": func(q *timers.Timers, x api.Timer) { q.Drop(one(29-x.At, "k", 0, 1)) },
		"set ahead":    func(q *timers.Timers, x api.Timer) { q.Set(one(-x.At-1, "k", 0, 1)) },
		"set next":     func(q *timers.Timers, x api.Timer) { q.Set(one(x.At, "l", 0, 1)) },
		"set last":     func(q *timers.Timers, x api.Timer) { q.Set(one(x.At+100, "k", 0, 1)) },
		"move":         func(q *timers.Timers, x api.Timer) { q.Move(one(x.At+1, "k", 0, 1), one(x.At+50, "k", 0, 1)) },
		"due":          func(q *timers.Timers, x api.Timer) { q.Due(x.At + 3) },
		"all due":      func(q *timers.Timers, x api.Timer) { q.Due(greatest) },
		"copy":         func(q *timers.Timers, x api.Timer) { q.Copy().Due(greatest) },
		"all": func(q *timers.Timers, x api.Timer) {
			for y := range q.All() {
				q.Drop(y)
			}
		},
	} {
		q := timers.New(list...)
		var told []api.Timer
		for x := range q.All() {
			told = append(told, x)
			do(q, x)
		}
		if !slices.Equal(told, list) {
			t.Errorf("%s: %v", name, told)
		}
	}
}

// Two walks at a time, one within the other: each of them has its own beginning.
func TestAllWithinAll(t *testing.T) {
	list := hours(10)
	q := timers.New(list...)
	all := q.All()
	place := 0
	for x := range all {
		q.Drop(x)
		place++
		if l := slices.Collect(all); !slices.Equal(l, list[place:]) {
			t.Errorf("within, behind Drop(%v): %v", x, l)
		}
	}
	if place != 10 || q.Len() != 0 {
		t.Errorf("the outer one tells %d, %d are left", place, q.Len())
	}
}
