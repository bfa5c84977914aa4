package merge_test

import (
	"math/rand"
	"slices"
	"testing"

	"keepsake/api"
	"keepsake/merge"
	"keepsake/tally"
	"keepsake/window"
)

// joined is what Join makes of a row, of which it is looked whether what P9.6 says of one call is so.
func joined(t *testing.T, l []api.Win, s api.Span, w, h int64) []api.Win {
	t.Helper()
	got, place, e := merge.Join(l, s, w, h)
	if e != api.OK || !merge.Apart(got) || place < 0 || place >= len(got) {
		t.Fatalf("Join(%v, %v, %d, %d) is %v, %d, %v: no row, or no place in it", l, s, w, h, got, place, e)
	}
	var stay []api.Win
	for _, x := range l {
		if !window.Overlap(x.Span, s) {
			stay = append(stay, x)
		}
	}
	if rest := slices.Delete(slices.Clone(got), place, place+1); !slices.Equal(rest, stay) {
		t.Fatalf("Join(%v, %v, %d, %d) is %v, the joined one at %d: the others do not stay", l, s, w, h, got, place)
	}
	return got
}

// alike tells whether windows are the same as spans and tallies.
func alike(a, b []api.Win) bool {
	return slices.EqualFunc(a, b, func(x, y api.Win) bool { return x.Span == y.Span && x.Tally == y.Tally })
}

// turned looks whether two spans do the same the other way round.
func turned(t *testing.T, l []api.Win, a, b api.Span, w, h, w2, h2 int64) {
	t.Helper()
	one := joined(t, joined(t, l, a, w, h), b, w2, h2)
	two := joined(t, joined(t, l, b, w2, h2), a, w, h)
	if !alike(one, two) {
		t.Fatalf("%v joined by %v and then by %v is %v, the other way round %v", l, a, b, one, two)
	}
}

func TestTheOtherWayRound(t *testing.T) {
	for _, l := range smallRows(0, 4) {
		for _, a := range smallSpans(-1, 5) {
			for _, b := range smallSpans(-1, 5) {
				if holds(a) && holds(b) {
					turned(t, filled(l), a, b, 2, 3, 2, 3)
				}
			}
		}
	}
	r := rand.New(rand.NewSource(3))
	for i := range 30000 {
		wide := i%2 == 0
		a, b := anySpan(r, wide), anySpan(r, wide)
		if holds(a) && holds(b) {
			turned(t, anyRow(r, wide), a, b, drawn(r, wide), drawn(r, wide), drawn(r, wide), drawn(r, wide))
		}
	}
}

// oneByOne joins [t, t + gap) for each time, beginning with no window.
func oneByOne(t *testing.T, times []int64, gap int64, r *rand.Rand) []api.Win {
	t.Helper()
	var l []api.Win
	for _, at := range times {
		l = joined(t, l, span(at, at+gap), anyNumber(r), anyNumber(r))
	}
	return l
}

// orders goes through all orders of a list.
func orders(l []int64, do func([]int64)) {
	if len(l) < 2 {
		do(l)
		return
	}
	for i := range l {
		rest := slices.Delete(slices.Clone(l), i, i+1)
		orders(rest, func(o []int64) { do(append([]int64{l[i]}, o...)) })
	}
}

func TestGapsAreWhatJoinsMake(t *testing.T) {
	r := rand.New(rand.NewSource(4))
	for _, times := range [][]int64{nil, {7}, {0, 5}, {10, 0, 3, 8}, {0, 5, 10, 15, 12}, {3, 3, 8, 8, 13}, {api.MinTime, api.MinTime + 5, api.MaxTime, api.MaxTime - 4}} {
		for _, gap := range []int64{1, 2, 4, 5, 6, 100, api.MaxSpan} {
			want, e := merge.Gaps(times, gap)
			orders(times, func(o []int64) {
				if l := oneByOne(t, o, gap, r); !slices.Equal(spansOf(l), want) || e != api.OK {
					t.Fatalf("%v with the gap %d make %v, Gaps is %v, %v", o, gap, spansOf(l), want, e)
				}
			})
		}
	}
	for range 5000 {
		gap := 1 + r.Int63n(1<<(1+r.Intn(40)))
		times := make([]int64, r.Intn(20))
		for i := range times {
			times[i] = min(max(r.Int63n(30*gap)-15*gap+r.Int63n(3)*(api.MaxTime/2), api.MinTime), api.MaxTime)
			if i > 0 && r.Intn(3) == 0 {
				times[i] = min(times[i-1]+gap, api.MaxTime) // two sessions that touch
			}
		}
		want, e := merge.Gaps(times, gap)
		if l := oneByOne(t, times, gap, r); !slices.Equal(spansOf(l), want) || e != api.OK {
			t.Fatalf("%v with the gap %d make %v, Gaps is %v, %v", times, gap, spansOf(l), want, e)
		}
		if model, _ := gapsOf(times, gap); !slices.Equal(want, model) {
			t.Fatalf("Gaps(%v, %d) is %v, want %v", times, gap, want, model)
		}
	}
}

// Sessions whose values are added as the events come hold, in any order of the events, the values of the times in them.
func TestSessionsHoldTheirValues(t *testing.T) {
	times := []int64{3, 9, 6, 20, 25, 14}
	value := func(at int64) int64 { return at*at - 50 }
	orders(times, func(o []int64) {
		var l []api.Win
		for _, at := range o {
			next, place, e := merge.Join(l, span(at, at+5), least, at)
			if e != api.OK {
				t.Fatalf("%v: %v", o, e)
			}
			next[place].Tally = tally.Add(next[place].Tally, value(at))
			next[place].Since++
			l = next
		}
		want := []api.Win{
			{Span: span(3, 14), Hold: 3, Tally: tally.Of(value(3), value(6), value(9)), Since: 3},
			{Span: span(14, 19), Hold: 14, Tally: tally.Of(value(14)), Since: 1},
			{Span: span(20, 25), Hold: 20, Tally: tally.Of(value(20)), Since: 1},
			{Span: span(25, 30), Hold: 25, Tally: tally.Of(value(25)), Since: 1},
		}
		if !slices.Equal(l, want) {
			t.Fatalf("events at %v make %v, want %v", o, l, want)
		}
	})
}

// fuzzed are windows and spans out of bytes: two bytes a window, how far it lies behind the one ahead of it and how long it is.
func fuzzed(b []byte) ([]api.Win, []api.Span) {
	var l []api.Win
	var all []api.Span
	at := int64(-20)
	for i := 0; i+1 < len(b) && i < 60; i += 2 {
		start := at + int64(int8(b[i]))%8
		end := start + int64(int8(b[i+1]))%16
		all = append(all, span(start, end))
		if b[i]&64 == 0 && start >= at && end > start {
			n := int64(b[i+1])
			l = append(l, win(start, end, n%3*(most/2), n<<56, n-9, n+9, n%5*(most/4), n%7*(most/6), -n))
			at = end
		}
	}
	return l, all
}

func FuzzRows(f *testing.F) {
	f.Add([]byte{0, 5, 0, 3, 7, 5}, int64(-16), int64(-14), int64(-15), int64(6), int64(0), int64(1))
	f.Add([]byte{}, int64(3), int64(8), int64(0), int64(3), int64(8), int64(13))
	f.Add([]byte{1, 1, 255, 5}, int64(least), int64(greatest), int64(greatest), int64(least), int64(3), int64(3))
	f.Fuzz(func(t *testing.T, b []byte, start, end, w, h, start2, end2 int64) {
		l, all := fuzzed(b)
		s, s2 := span(start, end), span(start2, end2)
		touches(t, l, s, w, h)
		touches(t, filled(all), s, w, h)
		if holds(s) && holds(s2) {
			turned(t, l, s, s2, w, h, h, w)
		}
		unites(t, append(all, s, s2))
	})
}

func FuzzGaps(f *testing.F) {
	f.Add([]byte{10, 246, 3, 5}, int64(5), int64(0))
	f.Add([]byte{5, 5, 5}, int64(5), int64(api.MaxTime-10))
	f.Add([]byte{1}, int64(api.MaxSpan), int64(api.MinTime))
	f.Fuzz(func(t *testing.T, steps []byte, gap, at int64) {
		times := []int64{at}
		for _, n := range steps[:min(len(steps), 40)] {
			at += int64(int8(n))
			times = append(times, at)
		}
		got, e := merge.Gaps(times, gap)
		want, wantE := gapsOf(times, gap)
		if !slices.Equal(got, want) || e != wantE {
			t.Fatalf("Gaps(%v, %d) is %v, %v, want %v, %v", times, gap, got, e, want, wantE)
		}
		if e != api.OK {
			return
		}
		if l := oneByOne(t, times, gap, rand.New(rand.NewSource(gap))); !slices.Equal(spansOf(l), got) {
			t.Fatalf("%v with the gap %d make %v, Gaps is %v", times, gap, spansOf(l), got)
		}
	})
}
