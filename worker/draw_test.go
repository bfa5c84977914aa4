package worker_test

import (
	"cmp"
	"math/rand"
	"slices"
	"strings"
	"testing"

	"keepsake/api"
	"keepsake/config"
	"keepsake/keyed"
)

// drawer draws messages of a job whose times go on slowly, so that windows fill, are due, and are expired.
type drawer struct {
	*rand.Rand
	c     api.Config
	now   int64
	unit  int64 // a window is about ten of them
	names []string
}

func newDrawer(r *rand.Rand, wide bool) *drawer {
	d := &drawer{Rand: r, c: anyJob(r, wide), unit: 1, names: anyNames(r)}
	if wide {
		d.unit = max(1, (d.c.Size+d.c.Gap)/10)
		d.now = []int64{minTime, 0, maxTime - 100*d.unit}[r.Intn(3)]
	}
	return d
}

// near is a time at most that many units behind now, or ahead of it.
func (d *drawer) near(behind, ahead int64) int64 {
	t := d.now + d.unit*(d.Int63n(behind+ahead+1)-behind)
	if d.unit > 1 {
		t += d.Int63n(3) - 1
	}
	return min(max(t, minTime), maxTime)
}

func (d *drawer) msg() api.Msg {
	d.now = min(d.now+d.unit*d.Int63n(3), maxTime)
	seq := d.Int63n(5)
	switch n := d.Intn(20); {
	case n < 13:
		return api.Msg{Kind: api.MsgEvent, Seq: seq, Key: d.names[d.Intn(len(d.names))], Time: d.near(25, 15), Value: d.value()}
	case n < 18:
		return api.Msg{Kind: api.MsgMark, Seq: seq, Time: d.near(15, 5)}
	case n < 19:
		return api.Msg{Kind: api.MsgMark, Seq: seq, Time: []int64{minTime, d.near(0, 0), d.near(40, 0)}[d.Intn(3)]}
	}
	return api.Msg{Kind: api.MsgSave, Seq: seq}
}

func (d *drawer) msgs(n int) []api.Msg {
	var l []api.Msg
	for range n {
		l = append(l, d.msg())
	}
	return l
}

// wrongMsg is a message that may not be.
func (d *drawer) wrongMsg() api.Msg {
	l := wrongMsgs()
	return l[d.Intn(len(l))]
}

func (d *drawer) value() int64 {
	switch d.Intn(6) {
	case 0:
		return least
	case 1:
		return greatest
	case 2:
		return int64(d.Uint64())
	}
	return d.Int63n(11) - 5
}

// twin is a worker at its beginning, at some mark, alone or not.
func (d *drawer) twin(t *testing.T) twin {
	t.Helper()
	of := 1
	if d.Intn(3) == 0 {
		of += d.Intn(min(d.c.Groups, 3))
	}
	return newTwin(t, d.c, d.Intn(of), of, d.near(20, 0))
}

// anyNames are a few keys, of whichever lengths and bytes.
func anyNames(r *rand.Rand) []string {
	l := []string{"", "a", "ab", "b", "B", "\x00", "\xff\xfe", "k", strings.Repeat("x", 255), strings.Repeat("x", 256)}
	r.Shuffle(len(l), func(i, j int) { l[i], l[j] = l[j], l[i] })
	return l[:1+r.Intn(6)]
}

// upTo is a number from 1 to n, often one of these two.
func upTo(r *rand.Rand, n int64) int64 {
	switch r.Intn(6) {
	case 0:
		return n
	case 1:
		return 1
	}
	return 1 + r.Int63n(n)
}

// anyJob is a job that may be.
func anyJob(r *rand.Rand, wide bool) api.Config {
	size := int64(12)
	if wide {
		size = 1 << 40
	}
	c := api.Config{Groups: int(upTo(r, 32768)), Sources: 1 + r.Intn(3), Kind: api.Kind(1 + r.Intn(3)), Late: upTo(r, size+1) - 1, Early: []int{0, 0, 1, 2, 3, 5, 1<<31 - 1}[r.Intn(7)], Discard: r.Intn(2) == 0}
	switch c.Kind {
	case api.Tumbling:
		c.Size = upTo(r, size)
		c.Offset = upTo(r, c.Size) - 1
	case api.Sliding:
		c.Size = upTo(r, size)
		low := (c.Size + 63) / 64
		c.Slide = low - 1 + upTo(r, c.Size-low+1)
		c.Offset = upTo(r, c.Slide) - 1
	case api.Session:
		c.Gap = upTo(r, size)
	}
	return c
}

// anyCount is a count, often at a bound.
func anyCount(r *rand.Rand) int64 {
	if r.Intn(3) == 0 {
		return []int64{0, 1, most / 2, most - 1, most}[r.Intn(5)]
	}
	return r.Int63n(5)
}

// anyKeys are keys that are in order for the job, whether they can be or not; some may be another worker's.
func (d *drawer) anyKeys() []api.KeyState {
	all := slices.Clone(d.names)
	slices.Sort(all)
	var l []api.KeyState
	for _, name := range all {
		if k := key(name, anyCount(d.Rand), d.anyWindows()...); len(k.Windows) > 0 || k.Dropped > 0 {
			l = append(l, k)
		}
	}
	return l
}

// anyWindows are windows of the drawer's job and others, of a Session without those that overlap.
func (d *drawer) anyWindows() []api.Win {
	var l []api.Span
	for range d.Intn(6) {
		t := d.near(25, 15)
		own, _ := keyed.Falls(d.c, api.KeyState{}, t)
		switch d.Intn(6) {
		case 0:
			l = append(l, api.Span{Start: t, End: max(t+1, d.near(5, 25))})
		case 1:
			l = append(l, []api.Span{{Start: minTime - maxSpan, End: t}, {Start: t, End: maxTime + maxSpan}, {Start: t, End: t + 1}}[d.Intn(3)])
		default:
			l = append(l, own[d.Intn(len(own))])
		}
	}
	slices.SortFunc(l, func(a, b api.Span) int { return cmp.Or(cmp.Compare(a.Start, b.Start), cmp.Compare(a.End, b.End)) })
	var wins []api.Win
	for _, s := range slices.Compact(l) {
		if d.c.Kind == api.Session && len(wins) > 0 && wins[len(wins)-1].End > s.Start {
			continue
		}
		x := win(s.Start, s.End, anyCount(d.Rand), d.value(), d.value(), d.value(), anyCount(d.Rand), anyCount(d.Rand), d.near(25, 15))
		if d.Intn(6) == 0 {
			x.Hold = []int64{least, minTime - 1, minTime, maxTime, maxTime + 1, greatest}[d.Intn(6)]
		}
		wins = append(wins, x)
	}
	return wins
}

// inOrder holds a worker against what is promised of all that it comes to: its states are in order, its windows none that are expired behind a mark, its outward mark not above its mark.
func inOrder(t *testing.T, w twin, behindMark bool) {
	t.Helper()
	s := api.State{Config: w.want.c, Marks: slices.Repeat([]int64{w.w.Mark()}, w.want.c.Sources), Keys: w.w.Keys()}
	if e := config.State(s); e != api.OK || w.w.Outward() > w.w.Mark() {
		t.Fatalf("the state %+v is not in order: %d, or Outward is %d", s, e, w.w.Outward())
	}
	for _, k := range s.Keys {
		for _, x := range k.Windows {
			if behindMark && x.End+w.want.c.Late <= w.w.Mark() {
				t.Fatalf("behind the mark %d there is %+v", w.w.Mark(), x)
			}
		}
	}
}
