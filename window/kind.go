package window

import "keepsake/api"

// row is windows of one size, whose starts lie a step apart: from the first one on up to the last one.
type row struct {
	first, last, step, size int64
}

// kind is how the windows of a kind of jobs lie. Of row and has nothing is asked but of jobs that are laid.
type kind struct {
	laid func(c api.Config) bool
	row  func(c api.Config, t int64) row
	has  func(c api.Config, s api.Span) bool
}

// kindOf looks up a job's kind; false, if there is no such kind.
func kindOf(c api.Config) (kind, bool) {
	kinds := [...]kind{
		api.Tumbling: {laidTumbling, rowTumbling, hasTumbling},
		api.Sliding:  {laidSliding, rowSliding, hasSliding},
		api.Session:  {laidSession, rowSession, hasSession},
	}
	if c.Kind < api.Tumbling || c.Kind > api.Session {
		return kind{}, false
	}
	return kinds[c.Kind], true
}

func laidTumbling(c api.Config) bool {
	return isSpan(c.Size) && isOffset(c.Offset, c.Size) && c.Slide == 0 && c.Gap == 0
}

func laidSliding(c api.Config) bool {
	// The slide is held against the size first, since a greater one times MaxSlices may go round.
	return isSpan(c.Size) && 1 <= c.Slide && c.Slide <= c.Size && c.Size <= api.MaxSlices*c.Slide && isOffset(c.Offset, c.Slide) && c.Gap == 0
}

func laidSession(c api.Config) bool {
	return isSpan(c.Gap) && c.Size == 0 && c.Slide == 0 && c.Offset == 0
}

// isSpan tells whether a size or a gap may be.
func isSpan(n int64) bool { return 1 <= n && n <= api.MaxSpan }

// isOffset tells whether an offset may be.
func isOffset(offset, step int64) bool { return 0 <= offset && offset < step }

// Tumbling windows lie as sliding ones would, whose slide is their size.

func rowTumbling(c api.Config, t int64) row { return stepped(t, c.Size, c.Offset, c.Size) }

func rowSliding(c api.Config, t int64) row { return stepped(t, c.Size, c.Offset, c.Slide) }

func rowSession(c api.Config, t int64) row {
	return row{first: t, last: t, step: c.Gap, size: c.Gap}
}

// stepped is the row of those windows that lie steps away from the offset and have t in them.
func stepped(t, size, offset, step int64) row {
	// A window that begins here, or ahead of it, does not reach t.
	short := t - size
	return row{
		first: short - above(short, offset, step) + step,
		last:  t - above(t, offset, step),
		step:  step,
		size:  size,
	}
}

func hasTumbling(c api.Config, s api.Span) bool { return isStep(s, c.Size, c.Offset, c.Size) }

func hasSliding(c api.Config, s api.Span) bool { return isStep(s, c.Size, c.Offset, c.Slide) }

func hasSession(c api.Config, s api.Span) bool {
	// It is not its length that is held against the gap: from the least time to the greatest one it goes past all numbers.
	return isTime(s.Start) && s.Start+c.Gap <= s.End && s.End <= api.MaxTime+c.Gap
}

// isStep tells whether a span is of the size, whole steps away from the offset, and has some time in it.
func isStep(s api.Span, size, offset, step int64) bool {
	if s.Start <= api.MinTime-size || s.Start > api.MaxTime {
		return false
	}
	return s.End == s.Start+size && above(s.Start, offset, step) == 0
}
