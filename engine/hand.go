package engine

import (
	"slices"

	"keepsake/api"
	"keepsake/worker"
)

// hand is a worker with what it has to do.
type hand struct {
	worker *worker.Worker
	todo   []*api.Msg // of its items that it has not done, the next one first; one that says nothing is of a mark that does not raise the watermark
	saved  int        // how many saves it has done
}

// isBusy tells whether it has something to do.
func (h hand) isBusy() bool { return len(h.todo) > 0 }

// lay puts a message behind what it has to do.
func (h *hand) lay(m *api.Msg) { h.todo = append(h.todo, m) }

// cut takes the first message off what it has to do, of which there must be something.
func (h *hand) cut() *api.Msg {
	m := h.todo[0]
	h.todo[0] = nil // the list's front is cut off, but not given back yet: what is done must not be kept by it
	h.todo = h.todo[1:]
	return m
}

// asNow tells its keys as they are now, whatever becomes of them.
func (h hand) asNow() part {
	kept := h.worker.Keys()
	return func() []api.KeyState { return keysApart(kept) }
}

// again is another hand that stands where this one does.
func (h hand) again() hand {
	h.worker = h.worker.Copy()
	h.todo = slices.Clone(h.todo)
	return h
}
