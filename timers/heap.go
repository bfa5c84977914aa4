package timers

import "keepsake/api"

// The heap: the timer at place i comes ahead of those at 2i + 1 and 2i + 2, which are below it.

// put sets a timer that is not set.
func (q *Timers) put(t api.Timer) {
	q.heap = append(q.heap, t)
	q.rise(len(q.heap)-1, t)
}

// take takes out the timer at a place, and puts the last one there.
func (q *Timers) take(place int) api.Timer {
	taken := q.heap[place]
	end := len(q.heap) - 1
	last := q.heap[end]
	q.heap[end] = api.Timer{} // or its key would be kept behind the list
	q.heap = q.heap[:end]
	delete(q.places, taken)
	if place < end {
		q.sink(place, last)
	}
	return taken
}

// lay writes a timer down at a place.
func (q *Timers) lay(place int, t api.Timer) {
	q.heap[place] = t
	q.places[t] = place
}

// rise lays a timer at a place or above it, ahead of all that it comes ahead of on the way up.
func (q *Timers) rise(place int, t api.Timer) {
	for place > 0 {
		above := (place - 1) / 2
		if Compare(q.heap[above], t) < 0 {
			break
		}
		q.lay(place, q.heap[above])
		place = above
	}
	q.lay(place, t)
}

// sink lays a timer at a place or below it, behind all that come ahead of it on the way down; if none does, it may have to rise, since it can come from another side of the heap.
func (q *Timers) sink(place int, t api.Timer) {
down:
	for {
		below := q.firstBelow(place)
		switch {
		case below == len(q.heap):
			break down
		case Compare(t, q.heap[below]) < 0:
			break down
		}
		q.lay(place, q.heap[below])
		place = below
	}
	q.rise(place, t)
}

// firstBelow is where the first one of those just below a place stands; behind the end, if there is none.
func (q *Timers) firstBelow(place int) int {
	left, right := 2*place+1, 2*place+2
	switch {
	case left >= len(q.heap):
		return len(q.heap)
	case right < len(q.heap) && Compare(q.heap[right], q.heap[left]) < 0:
		return right
	}
	return left
}
