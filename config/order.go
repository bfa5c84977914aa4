package config

import "keepsake/api"

// Item tells whether an item may be.
func Item(c api.Config, x api.Item) api.Errno {
	if e := Check(c); e != api.OK {
		return e
	}
	if !mayBe(c, x) {
		return api.ErrItem
	}
	return api.OK
}

// mayBe tells whether an item may be for a job that may be. What its kind does not name is told by holding it against an item that has nothing else.
func mayBe(c api.Config, x api.Item) bool {
	switch x.Kind {
	case api.ItemEvent:
		event := api.Item{Kind: x.Kind, Key: x.Key, Time: x.Time, Value: x.Value}
		return x == event && isKey(x.Key) && isTime(x.Time)
	case api.ItemMark:
		mark := api.Item{Kind: x.Kind, Source: x.Source, Time: x.Time}
		return x == mark && 0 <= x.Source && x.Source < c.Sources && isTime(x.Time)
	case api.ItemSave:
		return x == api.Item{Kind: x.Kind}
	}
	return false
}

// Key tells whether a key's state is in order.
func Key(c api.Config, k api.KeyState) api.Errno {
	if e := Check(c); e != api.OK {
		return e
	}
	if !keyInOrder(c.Kind, k) {
		return api.ErrState
	}
	return api.OK
}

// State tells whether a state is in order.
func State(s api.State) api.Errno {
	if e := Check(s.Config); e != api.OK {
		return e
	}
	if !marksInOrder(s.Config.Sources, s.Marks) || !keysInOrder(s.Config.Kind, s.Keys) {
		return api.ErrState
	}
	return api.OK
}

// marksInOrder tells whether there is a time for each source.
func marksInOrder(sources int, marks []int64) bool {
	for _, t := range marks {
		if !isTime(t) {
			return false
		}
	}
	return len(marks) == sources
}

// keysInOrder tells whether keys rise, each in order for jobs of that kind, and each with something to keep.
func keysInOrder(kind api.Kind, l []api.KeyState) bool {
	for i, k := range l {
		if i > 0 && k.Key <= l[i-1].Key {
			return false
		}
		if len(k.Windows) == 0 && k.Dropped == 0 {
			return false
		}
		if !keyInOrder(kind, k) {
			return false
		}
	}
	return true
}

// keyInOrder tells whether a key's state is in order for jobs of that kind.
func keyInOrder(kind api.Kind, k api.KeyState) bool {
	if !isKey(k.Key) || !isCount(k.Dropped) {
		return false
	}
	for i, w := range k.Windows {
		if !windowInOrder(w) {
			return false
		}
		if i > 0 && !isBehind(kind, k.Windows[i-1].Span, w.Span) {
			return false
		}
	}
	return true
}

// windowInOrder tells whether a window is in order by itself.
func windowInOrder(w api.Win) bool {
	return isSpan(w.Span) && isCount(w.Count) && isCount(w.Since) && isCount(w.Panes)
}

// isBehind tells whether b may be the next one behind a, both of them in order by themselves.
func isBehind(kind api.Kind, a, b api.Span) bool {
	if kind == api.Session {
		// So they rise, too; and if each is clear of the next one, it is of all that follow.
		return a.End <= b.Start
	}
	return a.Start < b.Start || a.Start == b.Start && a.End < b.End
}

// isSpan tells whether a span has a time in it and lies where windows may.
func isSpan(s api.Span) bool {
	return s.Start < s.End && api.MinTime-api.MaxSpan <= s.Start && s.End <= api.MaxTime+api.MaxSpan
}

// isKey tells whether a text is a key.
func isKey(key string) bool { return len(key) <= api.MaxKey }

// isTime tells whether a number is a time.
func isTime(t int64) bool { return api.MinTime <= t && t <= api.MaxTime }

// isCount tells whether a number is a count.
func isCount(n int64) bool { return 0 <= n && n <= api.MaxCount }
