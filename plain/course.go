package plain

import (
	"cmp"
	"maps"
	"slices"
	"strings"

	"keepsake/api"
	"keepsake/clock"
	"keepsake/config"
	"keepsake/keyed"
)

// course is how a job has gone so far: where it stands, and what was told and saved on the way.
type course struct {
	job   api.Config
	clock *clock.Clock            // the sources' marks
	keys  map[string]api.KeyState // none of them empty; saves and copies share their windows, which are never changed in place
	done  int
	panes []api.Pane
	saved []api.State
}

// step is what an item makes of a key's state, and the panes that it tells.
type step func(api.KeyState) (api.KeyState, []api.Pane)

// mayNotBe tells whether an item may not be.
func (c *course) mayNotBe(x api.Item) bool { return config.Item(c.job, x) != api.OK }

// do does an item that may be.
func (c *course) do(x api.Item) {
	touched, does := []string{x.Key}, c.event(x)
	switch x.Kind {
	case api.ItemMark:
		ahead, behind, _ := c.clock.Set(x.Source, x.Time)
		if ahead == behind {
			break // all keys stay as they are then, even where a window is expired
		}
		touched, does = c.rising(), c.rise(ahead, behind)
		fallthrough
	case api.ItemEvent:
		c.touch(touched, does)
	case api.ItemSave:
		c.saved = append(c.saved, c.state())
	}
	c.done++
}

// event is what an event does to its key.
func (c *course) event(x api.Item) step {
	return func(k api.KeyState) (api.KeyState, []api.Pane) {
		made, told, _, _ := keyed.Event(c.job, k, c.clock.Mark(), x.Time, x.Value)
		return made, told
	}
}

// rise is what a rise of the watermark does to each key.
func (c *course) rise(ahead, behind int64) step {
	return func(k api.KeyState) (api.KeyState, []api.Pane) {
		made, told, _ := keyed.Advance(c.job, k, ahead, behind)
		return made, told
	}
}

// touch does a step to keys that rise, and tells its panes by rising End.
func (c *course) touch(keys []string, does step) {
	var told []api.Pane
	for _, key := range keys {
		k, panes := does(c.find(key))
		c.put(k)
		told = append(told, panes...)
	}
	// The panes of each key rise by End already; those of one End stay in the keys' order.
	slices.SortStableFunc(told, func(a, b api.Pane) int { return cmp.Compare(a.End, b.End) })
	c.panes = append(c.panes, told...)
}

// find is the state of a key; an empty one, if there is none yet.
func (c *course) find(key string) api.KeyState {
	if k, found := c.keys[key]; found {
		return k
	}
	return api.KeyState{Key: strings.Clone(key)} // it will be kept
}

// put keeps a key's state; an empty one is none.
func (c *course) put(k api.KeyState) {
	if keyed.Empty(k) {
		delete(c.keys, k.Key)
		return
	}
	c.keys[k.Key] = k
}

// rising are all keys, rising.
func (c *course) rising() []string { return slices.Sorted(maps.Keys(c.keys)) }

// state is where it stands; its windows are those that are kept.
func (c *course) state() api.State {
	s := api.State{Config: c.job, Marks: c.clock.Marks()}
	for _, key := range c.rising() {
		s.Keys = append(s.Keys, c.keys[key])
	}
	return s
}

// again is another course that has gone as this one has.
func (c *course) again() *course {
	other := *c
	other.clock = c.clock.Copy()
	other.keys = maps.Clone(c.keys)
	other.panes = slices.Clone(c.panes)
	other.saved = slices.Clone(c.saved)
	return &other
}
