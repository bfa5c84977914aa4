package keyed

import (
	"slices"

	"keepsake/api"
	"keepsake/merge"
	"keepsake/window"
)

// seen is a window as it is seen when the watermark is mark.
type seen struct {
	api.Win
	mark int64
}

// isDue tells whether the watermark has come to the window's end.
func (s seen) isDue() bool { return window.Due(s.Span, s.mark) }

// isExpired tells whether the watermark has come to the window's end and late more.
func (s seen) isExpired(late int64) bool { return window.Over(s.Span, late, s.mark) }

// falls are the windows into which an event falls that comes to these windows, which are in order for the job.
func falls(c api.Config, l []api.Win, t int64) ([]api.Span, api.Errno) {
	spans, e := window.Falls(c, t)
	if e != api.OK || c.Kind != api.Session {
		return spans, e
	}
	s := spans[0]
	from, behind, _ := merge.Touch(l, s)
	for _, x := range l[from:behind] {
		s, _ = window.Join(s, x.Span)
	}
	return []api.Span{s}, api.OK
}

// layers are, by the kinds of jobs, functions that see to it that a window is there in the state that is being made, and tell its place. A new one holds back h.
func layers(made *api.KeyState, w, h int64) [api.Session + 1]func(api.Span) int {
	single := func(s api.Span) int {
		at, found := slices.BinarySearchFunc(made.Windows, s, func(x api.Win, s api.Span) int {
			return window.Compare(x.Span, s)
		})
		if !found {
			made.Windows = slices.Insert(made.Windows, at, api.Win{Span: s, Hold: h})
		}
		return at
	}
	// A session that has grown already overlaps just the windows that it has grown out of.
	joined := func(s api.Span) int {
		row, at, _ := merge.Join(made.Windows, s, w, h)
		made.Windows = row
		return at
	}
	return [...]func(api.Span) int{api.Tumbling: single, api.Sliding: single, api.Session: joined}
}
