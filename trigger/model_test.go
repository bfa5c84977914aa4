package trigger_test

import (
	"math"
	"math/big"
	"math/rand"
	"slices"

	"keepsake/api"
)

// What the chapter says, reckoned without bound and looked for plainly.

const (
	least    = math.MinInt64
	greatest = math.MaxInt64
	most     = api.MaxCount
)

func span(start, end int64) api.Span { return api.Span{Start: start, End: end} }

func of(count, sum, low, high int64) api.Tally {
	return api.Tally{Count: count, Sum: sum, Min: low, Max: high}
}

// example is the chapter's window W.
func example() api.Win {
	return api.Win{Span: span(0, 10), Hold: 3, Tally: of(2, 9, 4, 5), Since: 2, Panes: 1}
}

// ending is the chapter's window with another span.
func ending(start, end int64) api.Win {
	w := example()
	w.Span = span(start, end)
	return w
}

// job is a job with these numbers, of which trigger asks for no others.
func job(early int, late int64, discard bool) api.Config {
	return api.Config{Early: early, Late: late, Discard: discard}
}

func paneOf(key string, w api.Win, kind api.PaneKind) api.Pane {
	return api.Pane{Key: key, Span: span(w.Start, w.End), Kind: kind, Nth: w.Panes, Tally: of(w.Count, w.Sum, w.Min, w.Max)}
}

// oneMoreOf is one more of a number, line by line as the chapter says it.
func oneMoreOf(n int64) int64 {
	switch {
	case n < 0:
		return n + 1
	case n >= api.MaxCount:
		return api.MaxCount
	}
	return n + 1
}

// behindOf says which pane is told behind an event.
func behindOf(c api.Config, w api.Win, mark int64) (api.PaneKind, bool) {
	early := big.NewInt(int64(c.Early))
	switch {
	case w.End <= mark:
		return api.Late, true
	case early.Sign() != 0 && big.NewInt(w.Since).Cmp(early) >= 0:
		return api.Early, true
	}
	return 0, false
}

// tellOf is a window's pane and what is left, field by field.
func tellOf(key string, w api.Win, kind api.PaneKind, discard bool) (api.Pane, api.Win, api.Errno) {
	switch kind {
	case 1, 2, 3:
	default:
		return api.Pane{}, api.Win{}, 2
	}
	left := api.Win{Span: span(w.Start, w.End), Hold: w.Hold, Panes: oneMoreOf(w.Panes)}
	if !discard {
		left.Tally = of(w.Count, w.Sum, w.Min, w.Max)
	}
	return paneOf(key, w, kind), left, 0
}

// addOf is a tally with a value more, as layer 8 says it.
func addOf(t api.Tally, v int64) api.Tally {
	if t.Count < 1 {
		return of(1, v, v, v)
	}
	sum := int64(uint64(t.Sum) + uint64(v))
	return of(oneMoreOf(t.Count), sum, slices.Min([]int64{t.Min, v}), slices.Max([]int64{t.Max, v}))
}

// eventOf is a window behind an event.
func eventOf(c api.Config, key string, w api.Win, v, time, mark int64) (api.Win, []api.Pane) {
	hold := time
	if mark > hold {
		hold = mark
	}
	if w.Hold < hold {
		hold = w.Hold
	}
	next := api.Win{Span: span(w.Start, w.End), Hold: hold, Tally: addOf(w.Tally, v), Since: oneMoreOf(w.Since), Panes: w.Panes}
	kind, tells := behindOf(c, next, mark)
	if !tells {
		return next, nil
	}
	pane, left, _ := tellOf(key, next, kind, c.Discard)
	return left, []api.Pane{pane}
}

// overOf tells whether End and Late together are at most to.
func overOf(end, late, to int64) bool {
	both := new(big.Int).Add(big.NewInt(end), big.NewInt(late))
	return both.Cmp(big.NewInt(to)) <= 0
}

// markOf tells of each End that there is, the least one first, the windows that have it.
func markOf(c api.Config, key string, l []api.Win, from, to int64) ([]api.Win, []api.Pane) {
	var ends []int64
	var left []api.Win
	for _, w := range l {
		ends = append(ends, w.End)
		behind := w
		if from < w.End && w.End <= to {
			_, behind, _ = tellOf(key, w, api.OnTime, c.Discard)
		}
		if !overOf(w.End, c.Late, to) {
			left = append(left, behind)
		}
	}
	slices.Sort(ends)
	var told []api.Pane
	for _, end := range slices.Compact(ends) {
		for _, w := range l {
			if w.End == end && from < end && end <= to {
				told = append(told, paneOf(key, w, api.OnTime))
			}
		}
	}
	return left, told
}

// edges are numbers at and beside those where something may go round, or turns.
func edges() []int64 {
	var l []int64
	for _, n := range []int64{least + 1, api.MinTime, -most, -api.MaxSpan, 0, api.MaxEarly, api.MaxSpan, most, api.MaxTime, greatest - 1} {
		l = append(l, n-1, n, n+1)
	}
	return l
}

// countEdges are counts: wrong ones, those at the bound, those beside it.
func countEdges() []int64 {
	return []int64{least, least + 1, -most, -2, -1, 0, 1, 2, most / 2, most - 2, most - 1, most, most + 1, greatest - 1, greatest}
}

// anyNumber is a number of any size, as often near an edge as not.
func anyNumber(r *rand.Rand) int64 {
	if r.Intn(2) == 0 {
		l := edges()
		return l[r.Intn(len(l))]
	}
	return int64(r.Uint64()) >> r.Intn(64)
}

// drawn is a number out of a few, or out of all.
func drawn(r *rand.Rand, wide bool) int64 {
	if wide {
		return anyNumber(r)
	}
	return int64(r.Intn(12)) - 4
}

// anyCount is a count, as often a wrong one or one at a bound as not.
func anyCount(r *rand.Rand, wide bool) int64 {
	if wide && r.Intn(2) == 0 {
		l := countEdges()
		return l[r.Intn(len(l))]
	}
	return drawn(r, wide)
}

// anyWin is a window with any numbers in it.
func anyWin(r *rand.Rand, wide bool) api.Win {
	return api.Win{
		Span:  span(drawn(r, wide), drawn(r, wide)),
		Hold:  drawn(r, wide),
		Tally: of(anyCount(r, wide), anyNumber(r), anyNumber(r), anyNumber(r)),
		Since: anyCount(r, wide),
		Panes: anyCount(r, wide),
	}
}

// anyJob is a job with any numbers in it, those too of which trigger asks nothing.
func anyJob(r *rand.Rand, wide bool) api.Config {
	return api.Config{
		Groups: r.Intn(9), Sources: r.Intn(9), Kind: api.Kind(r.Intn(5)),
		Size: drawn(r, wide), Slide: drawn(r, wide), Offset: drawn(r, wide), Gap: drawn(r, wide),
		Late: drawn(r, wide), Early: int(drawn(r, wide)), Discard: r.Intn(2) == 0,
	}
}

func anyKey(r *rand.Rand) string {
	return []string{"", "a", "b", "\x00\xff", string(make([]byte, api.MaxKey+1))}[r.Intn(5)]
}
