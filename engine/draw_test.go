package engine_test

import (
	"cmp"
	"math/rand"
	"slices"
	"strings"
	"testing"

	"keepsake/api"
	"keepsake/keyed"
)

// drawer draws items of a job whose times go on slowly, so that windows fill, are due, and are expired; a mark stays behind now and then.
type drawer struct {
	*rand.Rand
	c       api.Config
	workers int
	now     int64
	unit    int64 // a window is about ten of them
	names   []string
}

func newDrawer(r *rand.Rand, wide bool) *drawer {
	d := &drawer{Rand: r, c: anyJob(r, wide), unit: 1, names: anyNames(r)}
	d.workers = 1 + r.Intn(min(d.c.Groups, 5))
	if wide {
		d.unit = max(1, (d.c.Size+d.c.Gap)/10)
		d.now = []int64{minTime, 0, maxTime - 100*d.unit}[r.Intn(3)]
	}
	return d
}

// near is a time at most that many units behind now, or ahead of it.
func (d *drawer) near(behind, ahead int64) int64 {
	t := d.now + d.unit*(d.Int63n(behind+ahead+1)-behind)
	if d.unit > 1 {
		t += d.Int63n(3) - 1
	}
	return min(max(t, minTime), maxTime)
}

func (d *drawer) item() api.Item {
	d.now = min(d.now+d.unit*d.Int63n(3), maxTime)
	switch n := d.Intn(20); {
	case n < 12:
		return event(d.names[d.Intn(len(d.names))], d.near(25, 15), d.value())
	case n < 17:
		return markOf(d.Intn(d.c.Sources), d.near(15, 5))
	case n < 18:
		return markOf(d.Intn(d.c.Sources), []int64{minTime, d.near(0, 0), d.near(40, 0)}[d.Intn(3)])
	}
	return save()
}

func (d *drawer) items(n int) []api.Item {
	var l []api.Item
	for range n {
		l = append(l, d.item())
	}
	return l
}

// picks are numbers of workers, and a few of none.
func (d *drawer) picks(n int) []int {
	var l []int
	for range n {
		l = append(l, d.pick())
	}
	return l
}

func (d *drawer) pick() int {
	if d.Intn(12) == 0 {
		return []int{-1, d.workers, least, greatest}[d.Intn(4)]
	}
	return d.Intn(d.workers)
}

// wrongItem is an item that may not be for the job.
func (d *drawer) wrongItem() api.Item {
	l := wrongItems(d.c)
	return l[d.Intn(len(l))]
}

func (d *drawer) value() int64 {
	switch d.Intn(6) {
	case 0:
		return least
	case 1:
		return greatest
	case 2:
		return int64(d.Uint64())
	}
	return d.Int63n(11) - 5
}

// twin is an engine at the job's beginning, or at some state.
func (d *drawer) twin(t *testing.T) twin {
	t.Helper()
	if d.Intn(3) == 0 {
		return fromTwin(t, d.anyState(), d.workers)
	}
	return newTwin(t, d.c, d.workers)
}

// wrongItems are items of each of which one thing may not be.
func wrongItems(c api.Config) []api.Item {
	l := []api.Item{
		{}, {Kind: -1}, {Kind: 4}, {Kind: 9}, {Kind: least}, {Kind: greatest}, {Kind: 4, Key: "a", Time: 3, Value: 1},
		event(strings.Repeat("x", 257), 3, 1), event(strings.Repeat("x", 70000), 3, 1),
		{Kind: api.ItemEvent, Key: "a", Time: 3, Value: 1, Source: 1}, {Kind: api.ItemEvent, Key: "a", Source: -1},
		markOf(-1, 3), markOf(c.Sources, 3), markOf(least, 3), markOf(greatest, 3),
		{Kind: api.ItemMark, Time: 3, Key: "a"}, {Kind: api.ItemMark, Time: 3, Value: 1}, {Kind: api.ItemMark, Time: 3, Value: -1},
		{Kind: api.ItemSave, Key: "a"}, {Kind: api.ItemSave, Time: 1}, {Kind: api.ItemSave, Value: 1}, {Kind: api.ItemSave, Source: 1},
	}
	for _, n := range []int64{minTime - 1, maxTime + 1, least, greatest} {
		l = append(l, event("a", n, 1), mark(n), markOf(c.Sources-1, n))
	}
	return l
}

// anyNames are a few keys, of whichever lengths and bytes.
func anyNames(r *rand.Rand) []string {
	l := []string{"", "a", "ab", "b", "B", "c", "d", "\x00", "\xff\xfe", "k", strings.Repeat("x", 255), strings.Repeat("x", 256)}
	r.Shuffle(len(l), func(i, j int) { l[i], l[j] = l[j], l[i] })
	return l[:1+r.Intn(8)]
}

// upTo is a number from 1 to n, often one of these two.
func upTo(r *rand.Rand, n int64) int64 {
	switch r.Intn(6) {
	case 0:
		return n
	case 1:
		return 1
	}
	return 1 + r.Int63n(n)
}

// anyJob is a job that may be.
func anyJob(r *rand.Rand, wide bool) api.Config {
	size := int64(12)
	if wide {
		size = 1 << 40
	}
	c := api.Config{Groups: []int{1, 2, 3, 4, 4, 7, 16, 100, 32768}[r.Intn(9)], Sources: 1 + r.Intn(3), Kind: api.Kind(1 + r.Intn(3)), Late: upTo(r, size+1) - 1, Early: []int{0, 0, 1, 2, 3, 5, 1<<31 - 1}[r.Intn(7)], Discard: r.Intn(2) == 0}
	switch c.Kind {
	case api.Tumbling:
		c.Size = upTo(r, size)
		c.Offset = upTo(r, c.Size) - 1
	case api.Sliding:
		c.Size = upTo(r, size)
		low := (c.Size + 63) / 64
		c.Slide = low - 1 + upTo(r, c.Size-low+1)
		c.Offset = upTo(r, c.Slide) - 1
	case api.Session:
		c.Gap = upTo(r, size)
	}
	return c
}

// anyCount is a count, often at a bound.
func anyCount(r *rand.Rand) int64 {
	if r.Intn(3) == 0 {
		return []int64{0, 1, most / 2, most - 1, most}[r.Intn(5)]
	}
	return r.Int63n(5)
}

// anyState is a state that is in order for the drawer's job, whether it can be or not.
func (d *drawer) anyState() api.State {
	s := state(d.c, nil)
	for range d.c.Sources {
		s.Marks = append(s.Marks, d.near(25, 5))
	}
	all := slices.Clone(d.names)
	slices.Sort(all)
	for _, name := range all {
		if k := key(name, anyCount(d.Rand), d.anyWindows()...); len(k.Windows) > 0 || k.Dropped > 0 {
			s.Keys = append(s.Keys, k)
		}
	}
	return s
}

// anyWindows are windows of the drawer's job and others, of a Session without those that overlap.
func (d *drawer) anyWindows() []api.Win {
	var l []api.Span
	for range d.Intn(6) {
		t := d.near(25, 15)
		own, _ := keyed.Falls(d.c, api.KeyState{}, t)
		switch d.Intn(6) {
		case 0:
			l = append(l, api.Span{Start: t, End: max(t+1, d.near(5, 25))})
		case 1:
			l = append(l, []api.Span{{Start: minTime - maxSpan, End: t}, {Start: t, End: maxTime + maxSpan}, {Start: t, End: t + 1}}[d.Intn(3)])
		default:
			l = append(l, own[d.Intn(len(own))])
		}
	}
	slices.SortFunc(l, func(a, b api.Span) int { return cmp.Or(cmp.Compare(a.Start, b.Start), cmp.Compare(a.End, b.End)) })
	var wins []api.Win
	for _, s := range slices.Compact(l) {
		if d.c.Kind == api.Session && len(wins) > 0 && wins[len(wins)-1].End > s.Start {
			continue
		}
		x := win(s.Start, s.End, anyCount(d.Rand), d.value(), d.value(), d.value(), anyCount(d.Rand), anyCount(d.Rand), d.near(25, 15))
		if d.Intn(6) == 0 {
			x.Hold = []int64{least, minTime - 1, minTime, maxTime, maxTime + 1, greatest}[d.Intn(6)]
		}
		wins = append(wins, x)
	}
	return wins
}
