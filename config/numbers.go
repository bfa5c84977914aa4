package config

import "keepsake/api"

// The places of a job's numbers, in the order in which its bytes and its text have them.
const (
	atGroups = iota
	atSources
	atKind
	atSize
	atSlide
	atOffset
	atGap
	atLate
	atEarly
	atDiscard
	places // how many there are
)

// fieldAt is the field of a job whose number stands at a place; Discard, which is never wrong, is none.
func fieldAt(at int) api.Field { return api.FieldGroups + api.Field(at) }

// numbers are a job's, each at its place; Discard counts as 1 or 0.
type numbers [places]int64

// bound is what a number is from, and what to.
type bound struct {
	least, most int64
}

// numbersOf are the numbers of a job.
func numbersOf(c api.Config) numbers {
	n := numbers{
		atGroups:  int64(c.Groups),
		atSources: int64(c.Sources),
		atKind:    int64(c.Kind),
		atSize:    c.Size,
		atSlide:   c.Slide,
		atOffset:  c.Offset,
		atGap:     c.Gap,
		atLate:    c.Late,
		atEarly:   int64(c.Early),
	}
	if c.Discard {
		n[atDiscard] = 1
	}
	return n
}

// job is the job that has these numbers; the zero job, which may not be, if there is none that may be.
func (n numbers) job() api.Config {
	if _, wrong := n.firstWrong(); wrong {
		return api.Config{}
	}
	return api.Config{
		Groups:  int(n[atGroups]),
		Sources: int(n[atSources]),
		Kind:    api.Kind(n[atKind]),
		Size:    n[atSize],
		Slide:   n[atSlide],
		Offset:  n[atOffset],
		Gap:     n[atGap],
		Late:    n[atLate],
		Early:   int(n[atEarly]),
		Discard: n[atDiscard] == 1,
	}
}

// firstWrong is the place of the first number that may not be; false, if all of them may.
func (n numbers) firstWrong() (int, bool) {
	for at, b := range n.bounds() {
		if n[at] < b.least || n[at] > b.most {
			return at, true
		}
	}
	return 0, false
}

// bounds are those of each number. Where one hangs on a number that may not be itself, it says nothing: that number stands ahead, and is told.
func (n numbers) bounds() [places]bound {
	l := [places]bound{
		atGroups:  {1, api.MaxGroups},
		atSources: {1, api.MaxSources},
		atKind:    {int64(api.Tumbling), int64(api.Session)},
		atSize:    {1, api.MaxSpan},
		atSlide:   {0, 0},
		atOffset:  {0, n[atSize] - 1},
		atGap:     {0, 0},
		atLate:    {0, api.MaxSpan},
		atEarly:   {0, api.MaxEarly},
		atDiscard: {0, 1},
	}
	switch api.Kind(n[atKind]) {
	case api.Sliding:
		l[atSlide] = bound{leastSlide(n[atSize]), n[atSize]}
		l[atOffset] = bound{0, n[atSlide] - 1}
	case api.Session:
		l[atSize], l[atOffset] = bound{0, 0}, bound{0, 0}
		l[atGap] = bound{1, api.MaxSpan}
	}
	return l
}

// leastSlide is the least slide of which MaxSlices are not less than the size.
func leastSlide(size int64) int64 { return (size + api.MaxSlices - 1) / api.MaxSlices }
