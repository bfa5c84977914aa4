package worker

import (
	"cmp"

	"keepsake/api"
)

// wait is what a window waits for: to be due, and till then it holds something back; or, if it is due, to be taken away.
type wait struct {
	api.Span
	due  bool
	hold int64 // of one that is not due
}

// waitOf is what a window waits for at a mark.
func waitOf(x api.Win, mark int64) wait {
	if x.End <= mark {
		return wait{Span: x.Span, due: true}
	}
	return wait{Span: x.Span, hold: x.Hold}
}

// settle sets what a key's windows wait for now, in place of what others waited for at the mark before. Both lists rise: most windows are in both, and wait as they did.
func (c *course) settle(key string, was, made []api.Win, before int64) {
	for len(was) > 0 && len(made) > 0 {
		a, b := waitOf(was[0], before), waitOf(made[0], c.mark)
		if a == b {
			was, made = was[1:], made[1:]
			continue
		}
		// Of one that waits otherwise than it did, the old timers go first.
		if cmp.Or(cmp.Compare(a.Start, b.Start), cmp.Compare(a.End, b.End)) <= 0 {
			c.drop(key, a)
			was = was[1:]
		} else {
			c.set(key, b)
			made = made[1:]
		}
	}
	for _, x := range was {
		c.drop(key, waitOf(x, before))
	}
	for _, x := range made {
		c.set(key, waitOf(x, c.mark))
	}
}

// set sets a window's timers.
func (c *course) set(key string, w wait) {
	if w.due {
		c.gone.Set(c.goes(key, w))
		return
	}
	c.ends.Set(ends(key, w))
	c.holds.Set(holds(key, w))
}

// drop takes a window's timers out.
func (c *course) drop(key string, w wait) {
	if w.due {
		c.gone.Drop(c.goes(key, w))
		return
	}
	c.ends.Drop(ends(key, w))
	c.holds.Drop(holds(key, w))
}

// ends is when a window will be due.
func ends(key string, w wait) api.Timer { return api.Timer{At: w.End, Key: key, Win: w.Span} }

// holds is what a window holds back.
func holds(key string, w wait) api.Timer { return api.Timer{At: w.hold, Key: key, Win: w.Span} }

// goes is when a window will be taken away.
func (c *course) goes(key string, w wait) api.Timer {
	return api.Timer{At: w.End + c.config.Late, Key: key, Win: w.Span}
}
