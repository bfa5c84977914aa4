package engine

import (
	"slices"
	"strings"

	"keepsake/api"
)

// part tells the keys of one worker, in memory of their own.
type part func() []api.KeyState

// save is where a job stands, or stood when the workers came to a save: the sources' marks, and the keys of each worker.
type save struct {
	marks []int64
	parts []part // by the workers' numbers; none yet of a worker that has not come to it
}

// now is where the job stands behind all that was fed, if the workers have done all of it.
func (c *course) now() save {
	s := save{marks: c.router.Marks()}
	for _, h := range c.hands {
		s.parts = append(s.parts, h.worker.Keys)
	}
	return s
}

// state is the state that is gathered of a save that all workers have come to.
func (c *course) state(s save) api.State {
	var keys []api.KeyState
	for _, tell := range s.parts {
		keys = append(keys, tell()...)
	}
	slices.SortFunc(keys, func(a, b api.KeyState) int { return strings.Compare(a.Key, b.Key) })
	return api.State{Config: c.job, Marks: slices.Clone(s.marks), Keys: keys}
}

// again is another save to which the same workers have come. What they have told there is never changed.
func (s save) again() save {
	s.parts = slices.Clone(s.parts)
	return s
}
