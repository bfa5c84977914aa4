package timers_test

import (
	"math/rand"
	"slices"
	"testing"

	"keepsake/api"
	"keepsake/timers"
)

// few are timers out of a small number of them, so that many are met again.
func few(r *rand.Rand) api.Timer {
	start := int64(r.Intn(2))
	return one(int64(r.Intn(6)), string([]byte{"abc"[r.Intn(3)]}), start, start+int64(r.Intn(2)))
}

// wide are timers whose numbers may be anything.
func wide(r *rand.Rand) api.Timer {
	key := make([]byte, r.Intn(4))
	r.Read(key)
	return one(int64(r.Uint64()), string(key), int64(r.Uint64()), int64(r.Uint64()))
}

func TestAnyCalls(t *testing.T) {
	r := rand.New(rand.NewSource(1))
	for round := range 200 {
		draw := few
		if round%4 == 0 {
			draw = wide
		}
		w := newTwin()
		for range 150 {
			anyCall(t, r, w, draw)
			w.same(t, draw(r), draw(r))
		}
	}
}

// anyCall does one call that changes something, of a timer that is set or of any.
func anyCall(t *testing.T, r *rand.Rand, w twin, draw func(*rand.Rand) api.Timer) {
	t.Helper()
	x := draw(r)
	if n := len(w.want.set); n > 0 && r.Intn(2) == 0 {
		x = w.want.set[r.Intn(n)]
	}
	switch r.Intn(8) {
	case 0, 1:
		w.drop(t, x)
	case 2:
		w.move(t, x, draw(r))
	case 3:
		if r.Intn(4) == 0 {
			w.due(t, x.At)
		}
	default:
		w.set(t, draw(r))
	}
}

func TestDueHangsOnWhatIsSetAlone(t *testing.T) {
	rising := []api.Timer{one(-3, "b", 0, 1), one(0, "a", -1, 5), one(0, "a", 0, 4), one(0, "a", 0, 5), one(0, "b", -9, 0), one(7, "", 0, 1), one(7, "a", 0, 1)}
	gone := one(0, "a", 0, 3)
	orders(rising, func(l []api.Timer) {
		q := timers.New(gone)
		for _, x := range l {
			q.Set(x)
		}
		q.Drop(gone)
		if due := q.Due(0); !slices.Equal(due, rising[:5]) {
			t.Fatalf("set as %v: Due(0) is %v", l, due)
		}
		if due := q.Due(7); !slices.Equal(due, rising[5:]) {
			t.Fatalf("set as %v: Due(7) is %v then", l, due)
		}
	})
}

// However many there are, and from whichever place one is taken out: the others come in the order.
func TestTheyGoInAnyOrder(t *testing.T) {
	rising := hours(7)
	full := timers.New(rising[3], rising[0], rising[6], rising[2], rising[5], rising[1], rising[4])
	orders(rising, func(l []api.Timer) {
		q := full.Copy()
		for i, x := range l {
			if !q.Drop(x) || q.Len() != 6-i {
				t.Fatalf("%v: Drop(%v) is false, or Len is %d", l, x, q.Len())
			}
			var rest []api.Timer
			for _, y := range rising {
				if slices.Contains(l[i+1:], y) {
					rest = append(rest, y)
				}
			}
			if told := q.Copy().Due(greatest); !slices.Equal(told, rest) {
				t.Fatalf("%v: %v are left behind Drop(%v)", l, told, x)
			}
		}
	})
}

// anySet are timers that came about by many calls.
func anySet(r *rand.Rand) *timers.Timers {
	draw := few
	if r.Intn(3) == 0 {
		draw = wide
	}
	q := timers.New()
	for range r.Intn(200) {
		if x := draw(r); r.Intn(4) == 0 {
			q.Drop(x)
		} else {
			q.Set(x)
		}
	}
	return q
}

func TestDueInTwoSteps(t *testing.T) {
	r := rand.New(rand.NewSource(2))
	for range 500 {
		q := anySet(r)
		first, then := few(r).At-1, few(r).At+1
		if r.Intn(3) == 0 {
			first, then = wide(r).At, wide(r).At
		}
		first, then = min(first, then), max(first, then)
		whole := q.Copy()
		l := q.Due(first)
		l = append(l, q.Due(then)...)
		if want := whole.Due(then); !slices.Equal(l, want) {
			t.Fatalf("Due(%d) and Due(%d): %v, Due of the later one alone: %v", first, then, l, want)
		}
		if a, b := slices.Collect(q.All()), slices.Collect(whole.All()); !slices.Equal(a, b) {
			t.Fatalf("Due(%d) and Due(%d) leave %v, Due of the later one alone %v", first, then, a, b)
		}
	}
}

func TestTakenOutOneByOne(t *testing.T) {
	r := rand.New(rand.NewSource(3))
	for range 300 {
		q := anySet(r)
		all := slices.Collect(q.All())
		due := q.Copy().Due(greatest)
		var l []api.Timer
		for x, ok := q.Next(); ok; x, ok = q.Next() {
			l = append(l, x)
			if !q.Drop(x) || q.Has(x) {
				t.Fatalf("Drop(%v) is false, or leaves it", x)
			}
		}
		if !slices.Equal(l, all) || !slices.Equal(l, due) {
			t.Fatalf("one by one %v, All %v, Due %v", l, all, due)
		}
		if !slices.IsSortedFunc(l, timers.Compare) {
			t.Fatalf("they do not come in the order: %v", l)
		}
	}
}

func TestManyTimers(t *testing.T) {
	const many = 200000
	q := timers.New()
	for i := range many {
		q.Set(one(int64(i*7919%many), "k", 0, 1))
	}
	for i := range many {
		switch i % 3 {
		case 0:
			q.Drop(one(int64(i), "k", 0, 1))
		case 1:
			q.Move(one(int64(i), "k", 0, 1), one(int64(many-i), "l", 0, 1))
		}
	}
	if n := q.Len(); n != many-(many+2)/3 {
		t.Fatalf("%d are left", n)
	}
	l := q.Due(many / 2)
	l = append(l, q.Due(many)...)
	if len(l) != many-(many+2)/3 || !slices.IsSortedFunc(l, timers.Compare) || q.Len() != 0 {
		t.Errorf("%d are told, or not in the order; %d are left", len(l), q.Len())
	}
}

// Each two bytes are a call of timers or of one of their copies; what they tell is held against what was put in and not taken out.
func FuzzCalls(f *testing.F) {
	f.Add([]byte{0, 5, 4, 1, 8, 9, 1, 5, 2, 5, 3, 6, 12, 1, 255, 255})
	f.Fuzz(func(t *testing.T, calls []byte) {
		family := []twin{newTwin()}
		for i := 0; i+1 < len(calls) && i < 1000; i += 2 {
			w := family[int(calls[i]>>6)%len(family)]
			n := calls[i+1]
			x := one(int64(n&7), string([]byte{n >> 3 & 3}), int64(n>>5&1), int64(n>>6))
			switch calls[i] & 15 {
			case 1, 2:
				w.drop(t, x)
			case 3, 4:
				w.move(t, x, one(int64(n>>5), string([]byte{n & 1}), 0, 1))
			case 5:
				w.due(t, x.At)
			case 6:
				if len(family) < 4 {
					family = append(family, w.copied())
				}
			default:
				w.set(t, x)
			}
		}
		for _, w := range family {
			w.same(t, one(0, "\x00", 0, 0), one(7, "\x03", 1, 3))
		}
	})
}
