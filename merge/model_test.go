package merge_test

import (
	"math"
	"math/big"
	"math/rand"
	"slices"

	"keepsake/api"
)

// What the chapter says, reckoned without bound and looked for plainly.

const (
	least    = math.MinInt64
	greatest = math.MaxInt64
	most     = api.MaxCount
)

func span(start, end int64) api.Span { return api.Span{Start: start, End: end} }

func spans(numbers ...int64) []api.Span {
	var l []api.Span
	for i := 0; i < len(numbers); i += 2 {
		l = append(l, span(numbers[i], numbers[i+1]))
	}
	return l
}

// win is a window in the order of the chapter's examples.
func win(start, end, count, sum, low, high, since, panes, hold int64) api.Win {
	return api.Win{Span: span(start, end), Hold: hold, Tally: api.Tally{Count: count, Sum: sum, Min: low, Max: high}, Since: since, Panes: panes}
}

func row(l ...api.Win) []api.Win { return l }

// bare are windows with nothing in them.
func bare(numbers ...int64) []api.Win {
	var l []api.Win
	for _, s := range spans(numbers...) {
		l = append(l, api.Win{Span: s})
	}
	return l
}

// spansOf are the windows' spans.
func spansOf(l []api.Win) []api.Span {
	var all []api.Span
	for _, x := range l {
		all = append(all, x.Span)
	}
	return all
}

func holds(s api.Span) bool { return s.Start < s.End }

// common tells whether some number lies in both spans.
func common(a, b api.Span) bool {
	start, end := a.Start, a.End
	if b.Start > start {
		start = b.Start
	}
	if b.End < end {
		end = b.End
	}
	return start < end
}

// apartOf holds each window against each other one.
func apartOf(l []api.Win) bool {
	for i, x := range l {
		if !holds(x.Span) {
			return false
		}
		for _, n := range []int64{x.Count, x.Since, x.Panes} {
			if n < 0 || n > api.MaxCount {
				return false
			}
		}
		for _, y := range l[:i] {
			if y.Start >= x.Start || common(x.Span, y.Span) {
				return false
			}
		}
	}
	return true
}

// touchOf goes over all windows.
func touchOf(l []api.Win, s api.Span) (int, int, api.Errno) {
	if !apartOf(l) || !holds(s) {
		return 0, 0, api.ErrRow
	}
	from, behind, ahead := -1, 0, 0
	for i, x := range l {
		if common(x.Span, s) {
			if from < 0 {
				from = i
			}
			behind = i + 1
		}
		if x.End <= s.Start {
			ahead++
		}
	}
	if from < 0 {
		return ahead, ahead, api.OK
	}
	return from, behind, api.OK
}

// added is a sum that goes no further than MaxCount.
func added(l []int64) int64 {
	sum := new(big.Int)
	for _, n := range l {
		sum.Add(sum, big.NewInt(n))
	}
	if sum.Cmp(big.NewInt(api.MaxCount)) > 0 {
		return api.MaxCount
	}
	return sum.Int64()
}

// joinedOf is the window that a span makes of those that overlap it, field by field as the chapter says.
func joinedOf(l []api.Win, s api.Span, w, h int64) api.Win {
	starts, ends, hold := []int64{s.Start}, []int64{s.End}, []int64{h}
	var counts, sinces, panes, lows, highs []int64
	var sum uint64
	for _, x := range l {
		starts, ends = append(starts, x.Start), append(ends, x.End)
		sinces, panes = append(sinces, x.Since), append(panes, x.Panes)
		if x.End > w {
			hold = append(hold, x.Hold)
		}
		if x.Count > 0 {
			counts, lows, highs = append(counts, x.Count), append(lows, x.Min), append(highs, x.Max)
			sum += uint64(x.Sum)
		}
	}
	joined := api.Win{Span: span(slices.Min(starts), slices.Max(ends)), Hold: slices.Min(hold), Since: added(sinces), Panes: added(panes)}
	if len(counts) > 0 {
		joined.Tally = api.Tally{Count: added(counts), Sum: int64(sum), Min: slices.Min(lows), Max: slices.Max(highs)}
	}
	return joined
}

// joinOf leaves out the windows that overlap the span, and puts the joined one where those stand that lie behind it.
func joinOf(l []api.Win, s api.Span, w, h int64) ([]api.Win, int, api.Errno) {
	if !apartOf(l) || !holds(s) {
		return nil, 0, api.ErrRow
	}
	var in, out []api.Win
	for _, x := range l {
		if common(x.Span, s) {
			in = append(in, x)
		} else {
			out = append(out, x)
		}
	}
	joined := joinedOf(in, s, w, h)
	place := 0
	for _, x := range out {
		if x.Start < joined.Start {
			place++
		}
	}
	return slices.Insert(out, place, joined), place, api.OK
}

// unionOf cuts the numbers at all ends, and asks of each piece whether a span holds it.
func unionOf(l []api.Span) []api.Span {
	var cuts []int64
	for _, s := range l {
		if holds(s) {
			cuts = append(cuts, s.Start, s.End)
		}
	}
	slices.Sort(cuts)
	cuts = slices.Compact(cuts)
	var all []api.Span
	for i := range max(len(cuts)-1, 0) {
		piece := span(cuts[i], cuts[i+1])
		switch {
		case !slices.ContainsFunc(l, func(s api.Span) bool { return holds(s) && common(s, piece) }):
		case len(all) > 0 && all[len(all)-1].End == piece.Start:
			all[len(all)-1].End = piece.End
		default:
			all = append(all, piece)
		}
	}
	return all
}

// gapsOf makes one of any two that overlap, as long as there are such.
func gapsOf(times []int64, gap int64) ([]api.Span, api.Errno) {
	if gap < 1 || gap > api.MaxSpan {
		return nil, api.ErrArg
	}
	var l []api.Span
	for _, t := range times {
		if t < api.MinTime || t > api.MaxTime {
			return nil, api.ErrArg
		}
		l = append(l, span(t, t+gap))
	}
	for again := true; again; {
		again = false
		for i := range l {
			for j := i + 1; j < len(l); j++ {
				if common(l[i], l[j]) {
					l[i] = span(min(l[i].Start, l[j].Start), max(l[i].End, l[j].End))
					l, again = slices.Delete(l, j, j+1), true
				}
			}
		}
	}
	slices.SortFunc(l, func(a, b api.Span) int {
		if a.Start < b.Start {
			return -1
		}
		return 1
	})
	return l, api.OK
}

// smallRows are the spans of all rows between two numbers.
func smallRows(from, to int64) [][]api.Span {
	all := [][]api.Span{nil}
	for start := from; start < to; start++ {
		for end := start + 1; end <= to; end++ {
			for _, rest := range smallRows(end, to) {
				all = append(all, append(spans(start, end), rest...))
			}
		}
	}
	return all
}

// smallSpans are all spans between two numbers, those that hold no time among them.
func smallSpans(from, to int64) []api.Span {
	var l []api.Span
	for start := from; start <= to; start++ {
		for end := from; end <= to; end++ {
			l = append(l, span(start, end))
		}
	}
	return l
}

// filled are windows of these spans, each with other numbers in it.
func filled(l []api.Span) []api.Win {
	var all []api.Win
	for i, s := range l {
		n := int64(i)
		all = append(all, win(s.Start, s.End, 1+n, 7-3*n, 2-n, 3+n, 5*n, 1+10*n, 4-n))
	}
	return all
}

// edges are numbers at and beside those where something may go round, or turns.
func edges() []int64 {
	var l []int64
	for _, n := range []int64{least + 1, api.MinTime, -api.MaxSpan, 0, api.MaxSpan, api.MaxTime, greatest - 1} {
		l = append(l, n-1, n, n+1)
	}
	return l
}

// anyNumber is a number of any size, as often near an edge as not.
func anyNumber(r *rand.Rand) int64 {
	if r.Intn(2) == 0 {
		l := edges()
		return l[r.Intn(len(l))]
	}
	return int64(r.Uint64()) >> r.Intn(64)
}

// anyCount is a count, as often one at a bound as not.
func anyCount(r *rand.Rand) int64 {
	if r.Intn(2) == 0 {
		return []int64{0, 0, 1, 2, most / 2, most - 1, most}[r.Intn(7)]
	}
	return r.Int63n(1 << (1 + r.Intn(53)))
}

// anyWin is a window with any numbers in it, those that are counts among them.
func anyWin(r *rand.Rand, s api.Span) api.Win {
	return win(s.Start, s.End, anyCount(r), anyNumber(r), anyNumber(r), anyNumber(r), anyCount(r), anyCount(r), anyNumber(r))
}

// drawn is a number out of a few, or out of all.
func drawn(r *rand.Rand, wide bool) int64 {
	if wide {
		return anyNumber(r)
	}
	return int64(r.Intn(40)) - 20
}

// anyRow is a row of sessions, some of which touch.
func anyRow(r *rand.Rand, wide bool) []api.Win {
	var cuts []int64
	for range r.Intn(16) {
		cuts = append(cuts, drawn(r, wide))
	}
	slices.Sort(cuts)
	cuts = slices.Compact(cuts)
	var l []api.Win
	for i := range max(len(cuts)-1, 0) {
		if r.Intn(3) > 0 {
			l = append(l, anyWin(r, span(cuts[i], cuts[i+1])))
		}
	}
	return l
}

// anySpan is a span that holds a time, most often.
func anySpan(r *rand.Rand, wide bool) api.Span {
	a, b := drawn(r, wide), drawn(r, wide)
	if r.Intn(20) == 0 {
		return span(a, b)
	}
	return span(min(a, b), max(a, b))
}
