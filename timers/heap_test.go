package timers

import (
	"math/rand"
	"strings"
	"testing"
	"unsafe"

	"keepsake/api"
)

// sound tells whether each timer comes ahead of those below it and stands where its place says, and nothing is kept beside them.
func sound(q *Timers) bool {
	for i, t := range q.heap {
		place, ok := q.places[t]
		if !ok || place != i || (i > 0 && Compare(q.heap[(i-1)/2], t) >= 0) {
			return false
		}
	}
	for _, t := range q.heap[len(q.heap):cap(q.heap)] {
		if t != (api.Timer{}) {
			return false
		}
	}
	return len(q.places) == len(q.heap)
}

func TestHeapIsSound(t *testing.T) {
	r := rand.New(rand.NewSource(5))
	for range 100 {
		q := New()
		for step := range 300 {
			x := api.Timer{At: int64(r.Intn(100)), Key: string([]byte{byte(r.Intn(2))})}
			switch r.Intn(6) {
			case 0, 1:
				q.Drop(x)
			case 2:
				q.Move(x, api.Timer{At: int64(r.Intn(100))})
			case 3:
				if r.Intn(10) == 0 {
					q.Due(x.At)
				}
			default:
				q.Set(x)
			}
			if !sound(q) {
				t.Fatalf("step %d: %v, places %v", step, q.heap, q.places)
			}
		}
		if c := q.Copy(); !sound(c) {
			t.Fatalf("the copy: %v, places %v", c.heap, c.places)
		}
	}
}

// A timer that takes another one's place may have to go up: it can come from another side of the heap.
func TestTakeMayRise(t *testing.T) {
	q := New()
	for _, at := range []int64{1, 10, 2, 11, 12, 3, 4} {
		q.Set(api.Timer{At: at})
	}
	q.Drop(api.Timer{At: 11})
	if !sound(q) || q.heap[1].At != 4 {
		t.Errorf("behind Drop: %v", q.heap)
	}
}

// A key may be a piece of a long text, which must not be kept for it, however often it is set.
func TestKeyIsNotKept(t *testing.T) {
	x := api.Timer{Key: strings.Repeat("key", 50)[3:6]}
	q := New(x)
	q.Set(x)
	q.Move(x, x)
	handed := unsafe.StringData(x.Key)
	for y := range q.places {
		if unsafe.StringData(y.Key) == handed {
			t.Error("the map of places keeps a key that was handed in")
		}
	}
	if unsafe.StringData(q.heap[0].Key) == handed {
		t.Error("the heap keeps a key that was handed in")
	}
}
