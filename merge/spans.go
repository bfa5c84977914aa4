package merge

import (
	"slices"

	"keepsake/api"
	"keepsake/window"
)

// Union is the times that lie in any of the spans, as spans that neither overlap nor touch.
func Union(spans ...api.Span) []api.Span {
	var full []api.Span
	for _, s := range spans {
		if isSpan(s) {
			full = append(full, s)
		}
	}
	return together(full, func(a, b api.Span) bool { return b.Start <= a.End })
}

// Gaps is the sessions that events at these times make.
func Gaps(times []int64, gap int64) ([]api.Span, api.Errno) {
	// Which gaps and times may be, and what a time alone falls into, layer 7 says of a session job.
	job := api.Config{Kind: api.Session, Gap: gap}
	if !window.Laid(job) {
		return nil, api.ErrArg
	}
	var all []api.Span
	for _, t := range times {
		falls, e := window.Falls(job, t)
		if e != api.OK {
			return nil, api.ErrArg
		}
		all = append(all, falls...)
	}
	return together(all, window.Overlap), api.OK
}

// together puts spans in order and joins each with what lies ahead of it, where both belong together; the list is the caller's own to spoil.
func together(l []api.Span, belong func(a, b api.Span) bool) []api.Span {
	slices.SortFunc(l, window.Compare)
	var joined []api.Span
	for _, s := range l {
		last := len(joined) - 1
		if last < 0 || !belong(joined[last], s) {
			joined = append(joined, s)
			continue
		}
		joined[last], _ = window.Join(joined[last], s)
	}
	return joined
}
