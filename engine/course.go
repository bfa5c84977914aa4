package engine

import (
	"maps"
	"slices"

	"keepsake/api"
	"keepsake/config"
	"keepsake/route"
	"keepsake/worker"
)

// course is how an engine has gone so far: what was fed, what each worker has done of it and has to do, what was told and saved on the way.
type course struct {
	job    api.Config
	router *route.Router // stands behind all that was fed, however little the workers have done of it
	hands  []hand        // by their workers' numbers
	told   []api.Told
	places map[string][]int // of each key of which something was told: where it stands in told
	saves  []save           // all that were fed
}

// hire makes the workers, each with those of the keys that are its own.
func (c *course) hire(workers int, keys []api.KeyState) {
	own := make([][]api.KeyState, workers)
	for _, k := range keys {
		n, _ := c.router.Worker(k.Key)
		own[n] = append(own[n], k)
	}
	for n, l := range own {
		w, _ := worker.New(c.job, n, workers, c.router.Watermark())
		w.Load(l...)
		c.hands = append(c.hands, hand{worker: w})
	}
}

// has tells whether there is a worker of that number.
func (c *course) has(n int) bool { return 0 <= n && n < len(c.hands) }

// mayNotBe tells whether an item may not be.
func (c *course) mayNotBe(x api.Item) bool { return config.Item(c.job, x) != api.OK }

// feed lays an item that may be behind all else that is to do.
func (c *course) feed(x api.Item) {
	if x.Kind == api.ItemSave {
		c.saves = append(c.saves, save{marks: c.router.Marks(), parts: make([]part, len(c.hands))})
	}
	sent, _ := c.router.Item(x)
	m := new(api.Msg) // one for all who get it, which nobody changes any more
	for _, s := range sent {
		*m = s.Msg
		c.hands[s.Worker].lay(m)
	}
	if len(sent) == 0 {
		// A mark that does not raise the watermark says nothing to the workers; but it is an item of theirs, which they have to do.
		for n := range c.hands {
			c.hands[n].lay(m)
		}
	}
}

// step lets a worker do the first of what it has to do, and tells whether there was something.
func (c *course) step(n int) bool {
	h := &c.hands[n]
	if !h.isBusy() {
		return false
	}
	m := h.cut()
	switch m.Kind {
	case api.MsgEvent, api.MsgMark:
		l, _ := h.worker.Take(*m)
		c.tell(n, int(m.Seq), l)
	case api.MsgSave:
		c.saves[h.saved].parts[n] = h.asNow()
		h.saved++
	}
	return true
}

// drain lets all workers do all that is to do, each of them all of its own ahead of the next one.
func (c *course) drain() {
next:
	for n := range c.hands {
		for {
			if !c.step(n) {
				continue next
			}
		}
	}
}

// tell puts panes that a worker tells by an item behind all that were told.
func (c *course) tell(n, item int, l []api.Pane) {
	for _, p := range l {
		c.places[p.Key] = append(c.places[p.Key], len(c.told))
		c.told = append(c.told, api.Told{Worker: n, Item: item, Pane: p})
	}
}

// out is the least of the workers' outward marks.
func (c *course) out() int64 {
	least := c.hands[0].worker.Outward()
	for _, h := range c.hands[1:] {
		least = min(least, h.worker.Outward())
	}
	return least
}

// saved is how many saves all workers have done: each of them does the saves in their order.
func (c *course) saved() int {
	least := len(c.saves)
	for _, h := range c.hands {
		least = min(least, h.saved)
	}
	return least
}

// again is another course that has gone as this one has.
func (c *course) again() *course {
	other := *c
	other.router = c.router.Copy()
	other.hands, other.saves = nil, nil
	for _, h := range c.hands {
		other.hands = append(other.hands, h.again())
	}
	for _, s := range c.saves {
		other.saves = append(other.saves, s.again())
	}
	other.told = slices.Clone(c.told)
	other.places = maps.Clone(c.places)
	for key, l := range c.places {
		other.places[key] = slices.Clone(l)
	}
	return &other
}
