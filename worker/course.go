package worker

import (
	"cmp"
	"slices"
	"strings"

	"keepsake/api"
	"keepsake/keyed"
	"keepsake/store"
	"keepsake/timers"
)

// course is how a worker has gone so far: what it is there for, how far time has come, its keys, and what their windows wait for.
type course struct {
	job
	mark  int64
	keys  *store.Map[string, api.KeyState] // none of them empty; copies share their windows, which are never changed in place
	ends  *timers.Timers                   // of windows that are not due: when they will be
	holds *timers.Timers                   // of windows that are not due: what they hold back
	gone  *timers.Timers                   // of windows that are due: when they will be taken away
}

// deeds are what messages do, by their kinds.
func deeds() map[api.MsgKind]func(*course, api.Msg) ([]api.Pane, api.Errno) {
	return map[api.MsgKind]func(*course, api.Msg) ([]api.Pane, api.Errno){
		api.MsgEvent: (*course).event,
		api.MsgMark:  (*course).rise,
		api.MsgSave:  (*course).save,
	}
}

// load makes these the keys, and no others.
func (c *course) load(l []api.KeyState) {
	c.keys = store.Of[string, api.KeyState]()
	c.ends, c.holds, c.gone = timers.New(), timers.New(), timers.New()
	for _, k := range l {
		c.put(api.KeyState{}, keyApart(k), c.mark)
	}
}

// event does an event to its key.
func (c *course) event(m api.Msg) ([]api.Pane, api.Errno) {
	if !c.isOwn(m.Key) {
		return nil, api.ErrOther
	}
	was := c.find(m.Key)
	made, told, _, _ := keyed.Event(c.config, was, c.mark, m.Time, m.Value)
	c.put(was, made, c.mark)
	return panesApart(told), api.OK
}

// rise does a rise of the watermark to the keys that it touches; all others it would leave as they are.
func (c *course) rise(m api.Msg) ([]api.Pane, api.Errno) {
	if m.Time <= c.mark {
		return nil, api.ErrFalls
	}
	before := c.mark
	c.mark = m.Time
	var told []api.Pane
	for _, key := range c.touched() {
		was := c.find(key)
		made, panes, _ := keyed.Advance(c.config, was, before, c.mark)
		c.put(was, made, before)
		told = append(told, panes...)
	}
	// The panes of each key rise by End already; those of one End stay in the keys' order.
	slices.SortStableFunc(told, func(a, b api.Pane) int { return cmp.Compare(a.End, b.End) })
	return panesApart(told), api.OK
}

// save changes nothing: what a worker is asked for then, its Keys tell.
func (c *course) save(api.Msg) ([]api.Pane, api.Errno) { return nil, api.OK }

// touched are the keys of which a window is due, or to be taken away, by the mark; rising, each of them once. What they waited for is set no more.
func (c *course) touched() []string {
	due := slices.Concat(c.ends.Due(c.mark), c.gone.Due(c.mark))
	slices.SortFunc(due, func(a, b api.Timer) int { return strings.Compare(a.Key, b.Key) })
	var keys []string
gather:
	for len(due) > 0 {
		key := due[0].Key
		keys = append(keys, key)
		for n, t := range due {
			if t.Key != key {
				due = due[n:]
				continue gather
			}
		}
		break
	}
	return keys
}

// find is the state of a key; an empty one, if the worker does not have it.
func (c *course) find(key string) api.KeyState {
	if k, found := c.keys.Get(key); found {
		return k
	}
	return api.KeyState{Key: strings.Clone(key)} // it will be kept
}

// put keeps a key's state in place of what it was at the mark before; an empty one is none.
func (c *course) put(was, made api.KeyState, before int64) {
	if keyed.Empty(made) {
		c.keys.Take(made.Key)
	} else {
		c.keys.Put(made.Key, made)
	}
	c.settle(made.Key, was.Windows, made.Windows, before)
}

// again is another course that has gone as this one has.
func (c *course) again() *course {
	other := *c
	other.keys = c.keys.Copy()
	other.ends, other.holds, other.gone = c.ends.Copy(), c.holds.Copy(), c.gone.Copy()
	return &other
}
