package window_test

import (
	"math"
	"math/big"
	"math/rand"

	"keepsake/api"
)

// What the chapter says, reckoned without bound and looked for plainly.

const (
	least    = math.MinInt64
	greatest = math.MaxInt64
)

func span(start, end int64) api.Span { return api.Span{Start: start, End: end} }

func spans(numbers ...int64) []api.Span {
	var l []api.Span
	for i := 0; i < len(numbers); i += 2 {
		l = append(l, span(numbers[i], numbers[i+1]))
	}
	return l
}

func tumbling(size, offset int64) api.Config {
	return api.Config{Kind: api.Tumbling, Size: size, Offset: offset}
}

func sliding(size, slide, offset int64) api.Config {
	return api.Config{Kind: api.Sliding, Size: size, Slide: slide, Offset: offset}
}

func session(gap int64) api.Config { return api.Config{Kind: api.Session, Gap: gap} }

func whole(n int64) *big.Int { return big.NewInt(n) }

func sum(a, b int64) *big.Int { return new(big.Int).Add(whole(a), whole(b)) }

// floorOf is the floor without bound. (Mod of the library is never negative.)
func floorOf(t, offset, step int64) *big.Int {
	far := new(big.Int).Sub(whole(t), whole(offset))
	far.Mod(far, whole(step))
	return far.Sub(whole(t), far)
}

// within tells whether a number is from the least to the greatest one.
func within(n *big.Int, least, greatest int64) bool {
	return n.Cmp(whole(least)) >= 0 && n.Cmp(whole(greatest)) <= 0
}

// laidOf says which jobs' windows are laid, line by line as the document does.
func laidOf(c api.Config) bool {
	slides := new(big.Int).Mul(whole(api.MaxSlices), whole(c.Slide))
	switch c.Kind {
	case api.Tumbling:
		return c.Size >= 1 && c.Size <= api.MaxSpan && c.Offset >= 0 && c.Offset <= c.Size-1 && c.Slide == 0 && c.Gap == 0
	case api.Sliding:
		return c.Size >= 1 && c.Size <= api.MaxSpan && c.Slide >= 1 && c.Slide <= c.Size && whole(c.Size).Cmp(slides) <= 0 && c.Offset >= 0 && c.Offset <= c.Slide-1 && c.Gap == 0
	case api.Session:
		return c.Gap >= 1 && c.Gap <= api.MaxSpan && c.Size == 0 && c.Slide == 0 && c.Offset == 0
	}
	return false
}

// stepOf is how far the starts of a job's windows lie apart.
func stepOf(c api.Config) int64 {
	if c.Kind == api.Tumbling {
		return c.Size
	}
	return c.Slide
}

// errorOf is what Falls must answer beside its list.
func errorOf(c api.Config, t int64) api.Errno {
	switch {
	case !laidOf(c):
		return api.ErrJob
	case t < api.MinTime || t > api.MaxTime:
		return api.ErrItem
	}
	return api.OK
}

// fallsOf goes down from t, floor by floor, as long as t is reached.
func fallsOf(c api.Config, t int64) []api.Span {
	if errorOf(c, t) != api.OK {
		return nil
	}
	if c.Kind == api.Session {
		return spans(t, t+c.Gap)
	}
	var l []api.Span
	for start := floorOf(t, c.Offset, stepOf(c)).Int64(); t < start+c.Size; start -= stepOf(c) {
		l = append(spans(start, start+c.Size), l...)
	}
	return l
}

// hasOf says of a span what the chapter asks.
func hasOf(c api.Config, s api.Span) bool {
	if !laidOf(c) || s.Start >= s.End {
		return false
	}
	length := new(big.Int).Sub(whole(s.End), whole(s.Start))
	if c.Kind == api.Session {
		last := new(big.Int).Sub(whole(s.End), whole(c.Gap))
		return within(whole(s.Start), api.MinTime, api.MaxTime) && within(last, api.MinTime, api.MaxTime) && length.Cmp(whole(c.Gap)) >= 0
	}
	someTime := max(s.Start, api.MinTime) <= min(s.End-1, api.MaxTime)
	return length.Cmp(whole(c.Size)) == 0 && floorOf(s.Start, c.Offset, stepOf(c)).Cmp(whole(s.Start)) == 0 && someTime
}

// someJobs are jobs whose windows are laid: small ones of every form, and the greatest that may be.
func someJobs() []api.Config {
	var l []api.Config
	for size := int64(1); size <= 8; size++ {
		for offset := range size {
			l = append(l, tumbling(size, offset))
		}
		for slide := int64(1); slide <= size; slide++ {
			for offset := range slide {
				l = append(l, sliding(size, slide, offset))
			}
		}
		l = append(l, session(size))
	}
	return append(l, greatJobs()...)
}

func greatJobs() []api.Config {
	const most, slices = api.MaxSpan, api.MaxSpan / api.MaxSlices
	return []api.Config{
		tumbling(most, 0), tumbling(most, 1), tumbling(most, most-1), tumbling(most-1, most-2), tumbling(1000003, 17),
		sliding(most, most, 0), sliding(most, most, most-1), sliding(most, slices, 0), sliding(most, slices, slices-1), sliding(most, slices+1, slices),
		sliding(most-1, most-2, 5), sliding(most, most-1, most-2), sliding(64, 1, 0), sliding(640, 10, 9), sliding(639, 10, 3), sliding(1000003, 20011, 77),
		session(most), session(most - 1), session(1000003),
	}
}

// wrongJobs are jobs whose windows are not laid.
func wrongJobs() []api.Config {
	l := []api.Config{{}, {Kind: 4, Size: 10}, {Kind: -1, Size: 10}, {Kind: greatest, Gap: 5}, {Kind: least, Gap: 5}, {Size: 10}, {Gap: 5}}
	for _, c := range []api.Config{tumbling(10, 3), sliding(10, 4, 1), session(5), tumbling(1, 0), sliding(1, 1, 0), session(1)} {
		for _, n := range []int64{least, -api.MaxSpan, -1, api.MaxSpan + 1, greatest} {
			size, slide, offset, gap := c, c, c, c
			size.Size, slide.Slide, offset.Offset, gap.Gap = n, n, n, n
			l = append(l, size, slide, offset, gap)
		}
	}
	return l
}

// someTimes are times around 0, and at both ends of what may be.
func someTimes() []int64 {
	var l []int64
	for d := int64(-20); d <= 20; d++ {
		l = append(l, d, d*1000003, api.MinTime+20+d, api.MaxTime-20+d)
	}
	return append(l, -api.MaxSpan-1, -api.MaxSpan, 1-api.MaxSpan, api.MaxSpan-1, api.MaxSpan, api.MaxSpan+1)
}

// noTimes are numbers that are no times.
func noTimes() []int64 {
	return []int64{least, least + 1, api.MinTime - api.MaxSpan, api.MinTime - 1, api.MaxTime + 1, api.MaxTime + api.MaxSpan, greatest - 1, greatest}
}

// edges are numbers at and beside those where something may go round.
func edges() []int64 {
	var l []int64
	for _, n := range []int64{least + 2, api.MinTime, -api.MaxSpan, 0, api.MaxSpan, api.MaxTime, greatest - 2} {
		l = append(l, n-2, n-1, n, n+1, n+2)
	}
	return l
}

// anyNumber is a number of any size, as often near an edge as not.
func anyNumber(r *rand.Rand) int64 {
	if r.Intn(2) == 0 {
		l := edges()
		return l[r.Intn(len(l))]
	}
	return int64(r.Uint64()) >> r.Intn(64)
}

// anyJob is a job whose windows are laid.
func anyJob(r *rand.Rand) api.Config {
	span := 1 + r.Int63n(1<<(1+r.Intn(40)))
	switch r.Intn(3) {
	case 0:
		return tumbling(span, r.Int63n(span))
	case 1:
		slide := max(1, (span+api.MaxSlices-1)/api.MaxSlices)
		slide += r.Int63n(span - slide + 1)
		return sliding(span, slide, r.Int63n(slide))
	}
	return session(span)
}

// anyTime is a time, as often near an end as not.
func anyTime(r *rand.Rand) int64 {
	switch r.Intn(4) {
	case 0:
		return api.MinTime + r.Int63n(1<<r.Intn(42))
	case 1:
		return api.MaxTime - r.Int63n(1<<r.Intn(42))
	}
	return min(max(int64(r.Uint64())>>r.Intn(64), api.MinTime), api.MaxTime)
}
