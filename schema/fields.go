package schema

import (
	"keepsake/api"
	"keepsake/wire"
)

// fieldsOfWin is how many fields a window has, each of which is written as one number.
const fieldsOfWin = 9

// field is how a field of a window is written and read. The first window has none ahead of it: there ahead is nil.
type field struct {
	put  func(to *wire.Writer, w, ahead *api.Win)
	read func(from *course, w, ahead *api.Win)
}

// fields are a window's fields, one row a field, in the order of their bytes.
//
// What is read is taken modulo 2 to the power 64: a count or a distance that goes round by that comes out below 0, or below what it is measured from, and no such state is in order.
func fields() [fieldsOfWin]field {
	return [...]field{
		{putStart, readStart},
		{
			// From the least Start to the greatest End it is further than an int64 goes.
			func(to *wire.Writer, w, _ *api.Win) { to.Number(uint64(w.End) - uint64(w.Start) - 1) },
			func(from *course, w, _ *api.Win) { w.End = int64(uint64(w.Start) + from.number() + 1) },
		},
		{
			func(to *wire.Writer, w, _ *api.Win) { to.Signed(w.Hold) },
			func(from *course, w, _ *api.Win) { w.Hold = from.signed() },
		},
		{
			func(to *wire.Writer, w, _ *api.Win) { to.Number(uint64(w.Count)) },
			func(from *course, w, _ *api.Win) { w.Count = int64(from.number()) },
		},
		{
			func(to *wire.Writer, w, _ *api.Win) { to.Signed(w.Sum) },
			func(from *course, w, _ *api.Win) { w.Sum = from.signed() },
		},
		{
			func(to *wire.Writer, w, _ *api.Win) { to.Signed(w.Min) },
			func(from *course, w, _ *api.Win) { w.Min = from.signed() },
		},
		{
			func(to *wire.Writer, w, _ *api.Win) { to.Signed(w.Max) },
			func(from *course, w, _ *api.Win) { w.Max = from.signed() },
		},
		{
			func(to *wire.Writer, w, _ *api.Win) { to.Number(uint64(w.Since)) },
			func(from *course, w, _ *api.Win) { w.Since = int64(from.number()) },
		},
		{
			func(to *wire.Writer, w, _ *api.Win) { to.Number(uint64(w.Panes)) },
			func(from *course, w, _ *api.Win) { w.Panes = int64(from.number()) },
		},
	}
}

// putStart writes where a window begins: by itself, or by how far that is from where the one ahead does.
func putStart(to *wire.Writer, w, ahead *api.Win) {
	if ahead == nil {
		to.Signed(w.Start)
		return
	}
	to.Number(uint64(w.Start) - uint64(ahead.Start))
}

// readStart reads what putStart writes.
func readStart(from *course, w, ahead *api.Win) {
	if ahead == nil {
		w.Start = from.signed()
		return
	}
	w.Start = int64(uint64(ahead.Start) + from.number())
}
