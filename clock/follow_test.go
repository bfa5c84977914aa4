package clock_test

import (
	"math/rand"
	"slices"
	"strconv"
	"testing"

	"keepsake/api"
	"keepsake/clock"
)

// few draws a name and a time out of a small number of them, so that many are met again.
func few(r *rand.Rand) (string, int64) {
	return []string{"", "a", "b", "ab", "\xff"}[r.Intn(5)], int64(r.Intn(9)) - 4
}

// wide draws any name, and any number, which may be no time.
func wide(r *rand.Rand) (string, int64) {
	name := make([]byte, r.Intn(4))
	r.Read(name)
	return string(name), int64(r.Uint64())
}

// edges draws one of many names, and a time at an edge or one past it.
func edges(r *rand.Rand) (string, int64) {
	edge := []int64{api.MinTime, 0, api.MaxTime}[r.Intn(3)]
	return strconv.Itoa(r.Intn(40)), edge + int64(r.Intn(3)) - 1
}

// anyCall does one call that changes something, or is refused.
func anyCall(t *testing.T, r *rand.Rand, w twin, draw func(*rand.Rand) (string, int64)) {
	t.Helper()
	name, time := draw(r)
	if n := len(w.want.holds); n > 0 && r.Intn(3) == 0 {
		name = w.want.holds[r.Intn(n)].name
	}
	switch r.Intn(8) {
	case 0, 1:
		w.set(t, r.Intn(len(w.want.marks)), time)
	case 2:
		w.set(t, r.Intn(len(w.want.marks)+2)-1, time)
	case 3, 4:
		w.free(t, name)
	default:
		w.hold(t, name, time)
	}
}

func TestAnyCalls(t *testing.T) {
	r := rand.New(rand.NewSource(1))
	for round := range 300 {
		draw := []func(*rand.Rand) (string, int64){few, wide, edges}[round%3]
		w := twinOf(t, slices.Repeat([]int64{api.MinTime}, 1+r.Intn(4))...)
		for range 150 {
			anyCall(t, r, w, draw)
			w.same(t)
		}
	}
}

// Long rows: what the clock tells is asked seldom, so that much has happened between.
func TestLongRows(t *testing.T) {
	r := rand.New(rand.NewSource(2))
	for range 5 {
		w := twinOf(t, slices.Repeat([]int64{api.MinTime}, 64)...)
		for step := range 5000 {
			name, time := strconv.Itoa(r.Intn(300)), int64(r.Intn(1000))
			switch r.Intn(4) {
			case 0:
				w.set(t, r.Intn(64), time)
			case 1:
				w.free(t, name)
			default:
				w.hold(t, name, time)
			}
			if step%97 == 0 {
				w.same(t)
			}
		}
		w.same(t)
	}
}

func TestNoMarkFalls(t *testing.T) {
	r := rand.New(rand.NewSource(3))
	for round := range 100 {
		draw := []func(*rand.Rand) (string, int64){few, wide, edges}[round%3]
		w := twinOf(t, 0, 0, 0)
		for range 200 {
			mark, marks := w.c.Mark(), w.c.Marks()
			anyCall(t, r, w, draw)
			if w.c.Mark() < mark {
				t.Fatalf("the mark falls from %d to %d", mark, w.c.Mark())
			}
			for i, x := range w.c.Marks() {
				if x < marks[i] {
					t.Fatalf("the mark of %d falls from %d to %d", i, marks[i], x)
				}
			}
			if w.c.Outward() > w.c.Mark() {
				t.Fatalf("Outward is %d, above the mark %d", w.c.Outward(), w.c.Mark())
			}
		}
	}
}

func TestMarksInAnotherOrder(t *testing.T) {
	type mark struct {
		source int
		time   int64
	}
	orders([]mark{{0, 5}, {1, 7}, {0, 2}, {2, 9}, {1, -3}, {2, 6}}, func(l []mark) {
		c, _ := clock.New(3)
		last := c.Mark()
		for _, x := range l {
			from, to, e := c.Set(x.source, x.time)
			if from != last || to < from || e != api.OK {
				t.Fatalf("%v: Set(%d, %d) is %d, %d, %v", l, x.source, x.time, from, to, e)
			}
			last = to
		}
		if marks := c.Marks(); !slices.Equal(marks, []int64{5, 7, 9}) || c.Mark() != 5 || last != 5 {
			t.Fatalf("%v: Marks are %v, Mark is %d", l, marks, c.Mark())
		}
	})
}

// With a hold more Outward does not rise, with one that is freed it does not fall.
func TestOutwardWithMoreAndFewer(t *testing.T) {
	r := rand.New(rand.NewSource(5))
	for range 100 {
		w := twinOf(t, 0, 1)
		for range 200 {
			name, time := few(r)
			was, n := w.c.Outward(), w.c.Len()
			switch r.Intn(3) {
			case 0:
				w.set(t, r.Intn(2), time)
			case 1:
				w.hold(t, name, time)
				if w.c.Len() > n && w.c.Outward() > was {
					t.Fatalf("with Hold(%q, %d) Outward rises from %d to %d", name, time, was, w.c.Outward())
				}
			default:
				w.free(t, name)
				if w.c.Outward() < was {
					t.Fatalf("with Free(%q) Outward falls from %d to %d", name, was, w.c.Outward())
				}
			}
		}
	}
}

// If no hold is set below the mark, Outward never falls.
func TestOutwardNeverFalls(t *testing.T) {
	r := rand.New(rand.NewSource(6))
	for range 200 {
		w := twinOf(t, 0, 0)
		was := w.c.Outward()
		for range 200 {
			name, time := few(r)
			switch r.Intn(4) {
			case 0:
				w.set(t, r.Intn(2), w.c.Mark()+time)
			case 1:
				w.free(t, name)
			default:
				w.hold(t, name, w.c.Mark()+max(time, 0))
			}
			if w.c.Outward() < was {
				t.Fatalf("Outward falls from %d to %d", was, w.c.Outward())
			}
			was = w.c.Outward()
		}
	}
}

// However the holds came and went: First, freed one by one, tells them by time, then by name.
func TestFreedOneByOne(t *testing.T) {
	r := rand.New(rand.NewSource(7))
	for range 300 {
		w := twinOf(t, 0)
		for range r.Intn(200) {
			anyCall(t, r, w, few)
			anyCall(t, r, w, edges)
		}
		last := held{"", least}
		for n := w.c.Len(); n > 0; n-- {
			name, time, ok := w.c.First()
			if !ok || time < last.time || time == last.time && !isAhead(last.name, name) {
				t.Fatalf("First is %q, %d, %t behind %v", name, time, ok, last)
			}
			last = held{name, time}
			w.free(t, name)
			w.same(t)
		}
	}
}

// Each order in which seven holds can be freed.
func TestTheyGoInAnyOrder(t *testing.T) {
	names := []string{"d", "a", "g", "c", "f", "b", "e"}
	origin, _ := clock.New(1)
	for i, name := range names {
		origin.Hold(name, int64(i*3%7))
	}
	orders(names, func(l []string) {
		w := twin{origin.Copy(), &model{marks: []int64{api.MinTime}}}
		for i, name := range names {
			w.want.hold(name, int64(i*3%7))
		}
		for _, name := range l {
			w.free(t, name)
			first, ok := w.want.first()
			if name, time, there := w.c.First(); name != first.name || time != first.time || there != ok {
				t.Fatalf("%v: First is %q, %d, %t, want %v", l, name, time, there, first)
			}
		}
	})
}

func TestManyHolds(t *testing.T) {
	const many = 200000
	c, _ := clock.Of(many)
	for i := range many {
		c.Hold(strconv.Itoa(i), int64(i*7919%many))
	}
	for i := range many {
		switch i % 3 {
		case 0:
			c.Free(strconv.Itoa(i))
		case 1:
			c.Hold(strconv.Itoa(i), int64(many-i))
		}
	}
	d := c.Copy()
	if n := many - (many+2)/3; c.Len() != n || d.Len() != n {
		t.Fatalf("%d are left, and %d of the copy", c.Len(), d.Len())
	}
	last := int64(least)
	for c.Len() > 0 {
		name, time, _ := c.First()
		if time < last || c.Outward() != time || !c.Free(name) {
			t.Fatalf("First is %q, %d behind %d, Outward %d", name, time, last, c.Outward())
		}
		last = time
	}
	if c.Outward() != many {
		t.Errorf("Outward without holds is %d", c.Outward())
	}
}

// Each two bytes are a call of a clock or of one of its copies; what they tell is held against a plain model.
func FuzzCalls(f *testing.F) {
	f.Add([]byte{0, 5, 4, 1, 8, 9, 1, 5, 2, 5, 3, 6, 12, 1, 70, 7, 134, 3, 255, 255})
	f.Fuzz(func(t *testing.T, calls []byte) {
		family := []twin{twinOf(t, 0, 0)}
		for i := 0; i+1 < len(calls) && i < 1000; i += 2 {
			w := family[int(calls[i]>>6)%len(family)]
			n := calls[i+1]
			name, time := string([]byte{n & 15}), int64(n>>4)-8
			if n>>4 == 15 {
				time = noTimes[n&3]
			}
			switch calls[i] & 15 {
			case 1, 2, 3:
				w.free(t, name)
			case 4, 5:
				w.set(t, int(n&3)-1, time)
			case 6:
				if len(family) < 4 {
					family = append(family, w.copied(t))
				}
			case 7:
				w.free(t, "")
			case 8:
				w.hold(t, "", time)
			default:
				w.hold(t, name, time)
			}
			w.same(t)
		}
		for _, w := range family {
			w.same(t)
		}
	})
}
