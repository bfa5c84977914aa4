package keyed_test

import (
	"math"
	"math/big"
	"math/rand"
	"slices"
	"strings"
	"testing"

	"keepsake/api"
	"keepsake/config"
	"keepsake/keyed"
)

// What DOC.md says under 'What an item does', reckoned without bound and looked for plainly.

const (
	least    = math.MinInt64
	greatest = math.MaxInt64
	most     = api.MaxCount
	lowest   = api.MinTime - api.MaxSpan
	highest  = api.MaxTime + api.MaxSpan
)

func span(start, end int64) api.Span { return api.Span{Start: start, End: end} }

func spans(numbers ...int64) []api.Span {
	var l []api.Span
	for i := 0; i+1 < len(numbers); i += 2 {
		l = append(l, span(numbers[i], numbers[i+1]))
	}
	return l
}

// win is a window in the order of the chapter's examples.
func win(start, end, count, sum, low, high, since, panes, hold int64) api.Win {
	return api.Win{Span: span(start, end), Hold: hold, Tally: api.Tally{Count: count, Sum: sum, Min: low, Max: high}, Since: since, Panes: panes}
}

// one is a window of one value, that has told nothing.
func one(start, end, v, hold int64) api.Win { return win(start, end, 1, v, v, v, 1, 0, hold) }

// pane is a pane of the key k in the order of the chapter's examples.
func pane(kind api.PaneKind, start, end, nth, count, sum, low, high int64) api.Pane {
	return api.Pane{Key: "k", Span: span(start, end), Kind: kind, Nth: nth, Tally: api.Tally{Count: count, Sum: sum, Min: low, Max: high}}
}

func panes(l ...api.Pane) []api.Pane { return l }

// key is a state of the key k.
func key(dropped int64, l ...api.Win) api.KeyState {
	return api.KeyState{Key: "k", Dropped: dropped, Windows: l}
}

func tumbling(late int64, early int, discard bool) api.Config {
	return api.Config{Groups: 4, Sources: 1, Kind: api.Tumbling, Size: 10, Late: late, Early: early, Discard: discard}
}

// sliding has windows of 10 that lie 5 apart.
func sliding(late int64, early int, discard bool) api.Config {
	return api.Config{Groups: 4, Sources: 1, Kind: api.Sliding, Size: 10, Slide: 5, Late: late, Early: early, Discard: discard}
}

func session(late int64, early int, discard bool) api.Config {
	return api.Config{Groups: 4, Sources: 1, Kind: api.Session, Gap: 5, Late: late, Early: early, Discard: discard}
}

// answer is what a call answers.
type answer struct {
	k       api.KeyState
	panes   []api.Pane
	dropped bool
	e       api.Errno
}

func (a answer) is(b answer) bool {
	return sameState(a.k, b.k) && slices.Equal(a.panes, b.panes) && a.dropped == b.dropped && a.e == b.e
}

func sameState(a, b api.KeyState) bool {
	return a.Key == b.Key && a.Dropped == b.Dropped && slices.Equal(a.Windows, b.Windows)
}

// event calls Event, and looks whether what was handed in stays.
func event(t *testing.T, c api.Config, k api.KeyState, w, at, v int64) answer {
	t.Helper()
	was := slices.Clone(k.Windows)
	var a answer
	a.k, a.panes, a.dropped, a.e = keyed.Event(c, k, w, at, v)
	if !slices.Equal(k.Windows, was) {
		t.Fatalf("Event(%v, .., %d, %d, %d) makes %v of what is handed in, which was %v", c, w, at, v, k.Windows, was)
	}
	return a
}

// advance calls Advance, and looks whether what was handed in stays.
func advance(t *testing.T, c api.Config, k api.KeyState, w0, w1 int64) answer {
	t.Helper()
	was := slices.Clone(k.Windows)
	var a answer
	a.k, a.panes, a.e = keyed.Advance(c, k, w0, w1)
	if !slices.Equal(k.Windows, was) {
		t.Fatalf("Advance(%v, .., %d, %d) makes %v of what is handed in, which was %v", c, w0, w1, k.Windows, was)
	}
	return a
}

// wantEvent holds Event, and the model, against what is wanted.
func wantEvent(t *testing.T, c api.Config, k api.KeyState, w, at, v int64, want answer) {
	t.Helper()
	if got := event(t, c, k, w, at, v); !got.is(want) {
		t.Errorf("Event(%v, %v, %d, %d, %d) is\n%v, want\n%v", c, k, w, at, v, got, want)
	}
	if got := eventOf(c, k, w, at, v); !got.is(want) {
		t.Errorf("the model says of Event(%v, %v, %d, %d, %d)\n%v, want\n%v", c, k, w, at, v, got, want)
	}
}

// wantAdvance holds Advance, and the model, against what is wanted.
func wantAdvance(t *testing.T, c api.Config, k api.KeyState, w0, w1 int64, want answer) {
	t.Helper()
	if got := advance(t, c, k, w0, w1); !got.is(want) {
		t.Errorf("Advance(%v, %v, %d, %d) is\n%v, want\n%v", c, k, w0, w1, got, want)
	}
	if got := advanceOf(c, k, w0, w1); !got.is(want) {
		t.Errorf("the model says of Advance(%v, %v, %d, %d)\n%v, want\n%v", c, k, w0, w1, got, want)
	}
}

func isTime(n int64) bool { return n >= -1<<62 && n <= 1<<62 }

// overlaps tells whether some time lies in both.
func overlaps(a, b api.Span) bool {
	start, end := a.Start, a.End
	if b.Start > start {
		start = b.Start
	}
	if b.End < end {
		end = b.End
	}
	return start < end
}

// expiredOf tells whether End and Late together are at most the watermark.
func expiredOf(c api.Config, s api.Span, w int64) bool {
	both := new(big.Int).Add(big.NewInt(s.End), big.NewInt(c.Late))
	return both.Cmp(big.NewInt(w)) <= 0
}

// fallsOf are the windows into which an event falls, of a job that may be, a state in order, a time.
func fallsOf(c api.Config, k api.KeyState, t int64) []api.Span {
	if c.Kind == api.Session {
		all := span(t, t+c.Gap)
		for _, x := range k.Windows {
			if overlaps(x.Span, span(t, t+c.Gap)) {
				all = span(min(all.Start, x.Start), max(all.End, x.End))
			}
		}
		return []api.Span{all}
	}
	step := c.Slide
	if c.Kind == api.Tumbling {
		step = c.Size
	}
	// Mod of big numbers is never below 0.
	rest := new(big.Int).Mod(big.NewInt(t-c.Offset), big.NewInt(step)).Int64()
	var l []api.Span
	for a := t - rest; a+c.Size > t; a -= step {
		l = append(l, span(a, a+c.Size))
	}
	slices.Reverse(l)
	return l
}

func countsOf(l ...int64) int64 {
	sum := new(big.Int)
	for _, n := range l {
		sum.Add(sum, big.NewInt(n))
	}
	if sum.Cmp(big.NewInt(most)) > 0 {
		return most
	}
	return sum.Int64()
}

// bothOf are two tallies put together.
func bothOf(a, b api.Tally) api.Tally {
	switch {
	case a.Count == 0 && b.Count == 0:
		return api.Tally{}
	case a.Count == 0:
		return b
	case b.Count == 0:
		return a
	}
	return api.Tally{Count: countsOf(a.Count, b.Count), Sum: int64(uint64(a.Sum) + uint64(b.Sum)), Min: min(a.Min, b.Min), Max: max(a.Max, b.Max)}
}

// tellOf is a window's pane, and the window behind it.
func tellOf(c api.Config, name string, x api.Win, kind api.PaneKind) (api.Pane, api.Win) {
	p := api.Pane{Key: name, Span: x.Span, Kind: kind, Nth: x.Panes, Tally: x.Tally}
	x.Panes, x.Since = countsOf(x.Panes, 1), 0
	if c.Discard {
		x.Tally = api.Tally{}
	}
	return p, x
}

// laidOf takes a window out of others, or makes it out of them: step 1 of what an event does.
func laidOf(c api.Config, l []api.Win, s api.Span, w, t int64) (api.Win, []api.Win) {
	x := api.Win{Span: s, Hold: max(t, w)}
	var others []api.Win
	for _, y := range l {
		switch {
		case c.Kind == api.Session && overlaps(y.Span, span(t, t+c.Gap)):
			x.Tally = bothOf(x.Tally, y.Tally)
			x.Since, x.Panes = countsOf(x.Since, y.Since), countsOf(x.Panes, y.Panes)
			if y.End > w && y.Hold < x.Hold {
				x.Hold = y.Hold
			}
		case c.Kind != api.Session && y.Span == s:
			x = y
		default:
			others = append(others, y)
		}
	}
	return x, others
}

// eventOf is what an event does.
func eventOf(c api.Config, k api.KeyState, w, t, v int64) answer {
	if e := config.Key(c, k); e != api.OK {
		return answer{e: e}
	}
	if !isTime(w) {
		return answer{e: 2}
	}
	if !isTime(t) {
		return answer{e: 5}
	}
	a := answer{k: api.KeyState{Key: k.Key, Dropped: k.Dropped, Windows: slices.Clone(k.Windows)}, dropped: true}
	for _, s := range fallsOf(c, k, t) {
		if expiredOf(c, s, w) {
			continue
		}
		a.dropped = false
		x, others := laidOf(c, a.k.Windows, s, w, t)
		x.Tally = bothOf(x.Tally, api.Tally{Count: 1, Sum: v, Min: v, Max: v})
		x.Since = countsOf(x.Since, 1)
		x.Hold = min(x.Hold, max(t, w))
		kind := api.PaneKind(0)
		if x.End <= w {
			kind = api.Late
		} else if c.Early != 0 && x.Since >= int64(c.Early) {
			kind = api.Early
		}
		if kind != 0 {
			p, behind := tellOf(c, k.Key, x, kind)
			a.panes, x = append(a.panes, p), behind
		}
		a.k.Windows = rising(append(others, x))
	}
	if a.dropped {
		a.k.Dropped = countsOf(a.k.Dropped, 1)
	}
	return a
}

func compareSpans(a, b api.Span) int {
	switch {
	case a.Start < b.Start || a.Start == b.Start && a.End < b.End:
		return -1
	case a == b:
		return 0
	}
	return 1
}

func rising(l []api.Win) []api.Win {
	slices.SortFunc(l, func(a, b api.Win) int { return compareSpans(a.Span, b.Span) })
	return l
}

// advanceOf is what a rising watermark does.
func advanceOf(c api.Config, k api.KeyState, w0, w1 int64) answer {
	if e := config.Key(c, k); e != api.OK {
		return answer{e: e}
	}
	if !isTime(w0) || !isTime(w1) || w1 < w0 {
		return answer{e: 2}
	}
	a := answer{k: api.KeyState{Key: k.Key, Dropped: k.Dropped}}
	var ends []int64
	for _, x := range k.Windows {
		ends = append(ends, x.End)
		if w0 < x.End && x.End <= w1 {
			_, x = tellOf(c, k.Key, x, api.OnTime)
		}
		if !expiredOf(c, x.Span, w1) {
			a.k.Windows = append(a.k.Windows, x)
		}
	}
	slices.Sort(ends)
	for _, end := range slices.Compact(ends) {
		for _, x := range k.Windows {
			if x.End == end && w0 < end && end <= w1 {
				p, _ := tellOf(c, k.Key, x, api.OnTime)
				a.panes = append(a.panes, p)
			}
		}
	}
	return a
}

// holdsOf is the least Hold of the windows that are not due.
func holdsOf(c api.Config, k api.KeyState, w int64) (int64, bool, api.Errno) {
	if e := config.Key(c, k); e != api.OK {
		return 0, false, e
	}
	if !isTime(w) {
		return 0, false, 2
	}
	var l []int64
	for _, x := range k.Windows {
		if x.End > w {
			l = append(l, x.Hold)
		}
	}
	if len(l) == 0 {
		return 0, false, 0
	}
	return slices.Min(l), true, 0
}

// edges are numbers at and beside those where something may go round, or turns.
func edges() []int64 {
	var l []int64
	for _, n := range []int64{least + 1, lowest, api.MinTime, -api.MaxSpan, 0, api.MaxSpan, most, api.MaxTime, highest, greatest - 1} {
		l = append(l, n-1, n, n+1)
	}
	return l
}

func anyNumber(r *rand.Rand) int64 {
	if r.Intn(2) == 0 {
		l := edges()
		return l[r.Intn(len(l))]
	}
	return int64(r.Uint64()) >> r.Intn(64)
}

// anyTime is a time out of a few, or out of all, as often near an end as not.
func anyTime(r *rand.Rand, wide bool) int64 {
	if !wide {
		return r.Int63n(50) - 25
	}
	far := r.Int63n(1 << (1 + r.Intn(42)))
	switch r.Intn(3) {
	case 0:
		return api.MinTime + far
	case 1:
		return api.MaxTime - far
	}
	return far - r.Int63n(1<<41)
}

// anyCount is a count, as often at a bound as not.
func anyCount(r *rand.Rand) int64 {
	if r.Intn(3) == 0 {
		return []int64{0, 1, most / 2, most - 2, most - 1, most}[r.Intn(6)]
	}
	return r.Int63n(5)
}

// upTo is a number from 1 to n, of any size.
func upTo(r *rand.Rand, n int64) int64 {
	switch r.Intn(4) {
	case 0:
		return n
	case 1:
		return 1
	}
	return 1 + r.Int63n(n)
}

// anyJob is a job that may be.
func anyJob(r *rand.Rand, wide bool) api.Config {
	size, late := int64(12), int64(15)
	if wide {
		size, late = api.MaxSpan, api.MaxSpan
	}
	c := api.Config{Groups: 1 + r.Intn(9), Sources: 1 + r.Intn(9), Kind: api.Kind(1 + r.Intn(3)), Late: upTo(r, late+1) - 1, Early: r.Intn(5), Discard: r.Intn(2) == 0}
	if c.Early == 4 {
		c.Early = api.MaxEarly
	}
	switch c.Kind {
	case api.Tumbling:
		c.Size = upTo(r, size)
		c.Offset = upTo(r, c.Size) - 1
	case api.Sliding:
		c.Size = upTo(r, size)
		low := (c.Size + api.MaxSlices - 1) / api.MaxSlices
		c.Slide = low - 1 + upTo(r, c.Size-low+1)
		c.Offset = upTo(r, c.Slide) - 1
	case api.Session:
		c.Gap = upTo(r, size)
	}
	return c
}

// anySpans are spans in order for a job: its own windows and others, of a Session without those that overlap.
func anySpans(r *rand.Rand, c api.Config, wide bool) []api.Span {
	var l []api.Span
	for range r.Intn(7) {
		if r.Intn(3) > 0 {
			own := fallsOf(c, api.KeyState{}, anyTime(r, wide))
			l = append(l, own[r.Intn(len(own))])
			continue
		}
		a, b := anyTime(r, wide), anyTime(r, wide)
		if wide && r.Intn(3) == 0 {
			a, b = lowest, min(b, highest)
		}
		if wide && r.Intn(3) == 0 {
			b = highest
		}
		if a != b {
			l = append(l, span(min(a, b), max(a, b)))
		}
	}
	slices.SortFunc(l, compareSpans)
	l = slices.Compact(l)
	if c.Kind != api.Session {
		return l
	}
	var apart []api.Span
	for _, s := range l {
		if len(apart) == 0 || apart[len(apart)-1].End <= s.Start {
			apart = append(apart, s)
		}
	}
	return apart
}

// anyState is a key's state that is in order for a job, whether it can be or not.
func anyState(r *rand.Rand, c api.Config, wide bool) api.KeyState {
	name := []string{"", "a", "k", "\x00\xff", strings.Repeat("x", api.MaxKey)}[r.Intn(5)]
	k := api.KeyState{Key: name, Dropped: anyCount(r)}
	for _, s := range anySpans(r, c, wide) {
		x := win(s.Start, s.End, anyCount(r), anyNumber(r), anyNumber(r), anyNumber(r), anyCount(r), anyCount(r), anyTime(r, wide))
		if r.Intn(4) == 0 {
			x.Hold = anyNumber(r)
		}
		k.Windows = append(k.Windows, x)
	}
	return k
}
