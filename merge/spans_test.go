package merge_test

import (
	"math/rand"
	"slices"
	"testing"

	"keepsake/api"
	"keepsake/merge"
)

func TestUnion(t *testing.T) {
	for _, r := range []struct{ l, want []api.Span }{
		{spans(5, 8, 0, 2, 1, 5, 9, 9), spans(0, 8)}, {spans(5, 8, 0, 2, 1, 5, 9, 9, 10, 12), spans(0, 8, 10, 12)}, {nil, nil}, {[]api.Span{}, nil},

		{spans(0, 5), spans(0, 5)}, {spans(0, 5, 5, 8), spans(0, 8)}, {spans(5, 8, 0, 5), spans(0, 8)}, {spans(0, 5, 6, 8), spans(0, 5, 6, 8)}, {spans(6, 8, 0, 5), spans(0, 5, 6, 8)}, {spans(0, 5, 4, 8), spans(0, 8)},
		{spans(0, 9, 3, 4), spans(0, 9)}, {spans(3, 4, 0, 9), spans(0, 9)}, {spans(0, 9, 3, 4, 8, 12), spans(0, 12)}, {spans(0, 9, 3, 4, 5, 6, 10, 11), spans(0, 9, 10, 11)}, {spans(0, 3, 0, 9, 0, 1), spans(0, 9)}, {spans(2, 9, 5, 9, 0, 9), spans(0, 9)}, {spans(4, 5, 4, 5, 4, 5), spans(4, 5)},
		{spans(10, 11, 8, 9, 6, 7, 9, 10, 7, 8), spans(6, 11)}, {spans(10, 11, 8, 9, 6, 7), spans(6, 7, 8, 9, 10, 11)}, {spans(-9, -5, -5, -4, -3, 0), spans(-9, -4, -3, 0)},

		// Spans without times, wherever they lie: they join nothing.
		{spans(3, 3), nil}, {spans(5, 3), nil}, {spans(0, 0, 9, 2, greatest, least), nil}, {spans(0, 5, 5, 5, 6, 8), spans(0, 5, 6, 8)}, {spans(0, 5, 6, 5, 6, 8), spans(0, 5, 6, 8)}, {spans(0, 5, 3, -7), spans(0, 5)}, {spans(-7, -7, 0, 5, 99, 3), spans(0, 5)}, {spans(2, 2, 0, 5), spans(0, 5)},

		// All numbers there are.
		{spans(least, greatest), spans(least, greatest)}, {spans(least, 0, 0, greatest), spans(least, greatest)}, {spans(least, -1, 0, greatest), spans(least, -1, 0, greatest)}, {spans(greatest-1, greatest, least, least+1), spans(least, least+1, greatest-1, greatest)}, {spans(least, greatest, 0, 1), spans(least, greatest)}, {spans(least, least, greatest, greatest), nil},
	} {
		if got := merge.Union(r.l...); !slices.Equal(got, r.want) {
			t.Errorf("Union(%v) is %v, want %v", r.l, got, r.want)
		}
		if got := unionOf(r.l); !slices.Equal(got, r.want) {
			t.Errorf("the model says of %v %v", r.l, got)
		}
	}
}

// unites looks whether a union has just the times of its spans, and is told in the form that the chapter asks.
func unites(t *testing.T, l []api.Span) {
	t.Helper()
	got := merge.Union(l...)
	if want := unionOf(l); !slices.Equal(got, want) {
		t.Fatalf("Union(%v) is %v, want %v", l, got, want)
	}
	for i, s := range got {
		if s.Start >= s.End || i > 0 && s.Start <= got[i-1].End {
			t.Fatalf("Union(%v) is %v: spans that hold no time, touch or do not rise", l, got)
		}
	}
	if again := merge.Union(got...); !slices.Equal(again, got) {
		t.Fatalf("Union(%v) is %v", got, again)
	}
}

// The times of all small lists of spans, one by one.
func TestUnionHasTheTimesOfItsSpans(t *testing.T) {
	in := func(l []api.Span, n int64) bool {
		return slices.ContainsFunc(l, func(s api.Span) bool { return s.Start <= n && n < s.End })
	}
	all := smallSpans(0, 5)
	for _, a := range all {
		for _, b := range all {
			for _, c := range all {
				l := []api.Span{a, b, c}
				got := merge.Union(l...)
				for n := int64(-1); n <= 6; n++ {
					if in(got, n) != in(l, n) {
						t.Fatalf("Union(%v) is %v: %d", l, got, n)
					}
				}
				unites(t, l)
			}
		}
	}
}

func TestUnionOfAny(t *testing.T) {
	r := rand.New(rand.NewSource(2))
	for i := range 20000 {
		l := make([]api.Span, r.Intn(12))
		for j := range l {
			l[j] = span(drawn(r, i%2 == 0), drawn(r, i%2 == 0))
		}
		unites(t, l)
		got := merge.Union(l...)
		r.Shuffle(len(l), func(i, j int) { l[i], l[j] = l[j], l[i] })
		if other := merge.Union(l...); !slices.Equal(got, other) {
			t.Fatalf("Union(%v) is %v, in another order %v", l, other, got)
		}
	}
}

func TestGaps(t *testing.T) {
	const wide, first, last = api.MaxSpan, api.MinTime, api.MaxTime
	for _, r := range []struct {
		times []int64
		gap   int64
		want  []api.Span
		e     api.Errno
	}{
		{[]int64{10, 0, 3, 8}, 5, spans(0, 8, 8, 15), api.OK}, {[]int64{20, 0, 3}, 5, spans(0, 8, 20, 25), api.OK}, {[]int64{0, 5}, 5, spans(0, 5, 5, 10), api.OK}, {nil, 5, nil, api.OK}, {[]int64{0}, 0, nil, api.ErrArg},

		// Just gap apart, one less, one more; the same time twice; in a chain.
		{[]int64{5, 0}, 5, spans(0, 5, 5, 10), api.OK}, {[]int64{0, 4}, 5, spans(0, 9), api.OK}, {[]int64{0, 6}, 5, spans(0, 5, 6, 11), api.OK}, {[]int64{3, 3, 3}, 5, spans(3, 8), api.OK}, {[]int64{0, 4, 8, 12}, 5, spans(0, 17), api.OK}, {[]int64{12, 4, 0, 8}, 5, spans(0, 17), api.OK}, {[]int64{0, 5, 10}, 5, spans(0, 5, 5, 10, 10, 15), api.OK}, {[]int64{10, 5, 0, 5}, 5, spans(0, 5, 5, 10, 10, 15), api.OK}, {[]int64{0, 5, 3}, 5, spans(0, 10), api.OK}, {[]int64{0, 5, 0}, 5, spans(0, 5, 5, 10), api.OK}, {[]int64{-3, -8, -1}, 5, spans(-8, -3, -3, 4), api.OK},

		// A gap of 1: each time by itself. The greatest gap, and one past each bound.
		{[]int64{3, 1, 2, 3}, 1, spans(1, 2, 2, 3, 3, 4), api.OK}, {[]int64{7}, 1, spans(7, 8), api.OK}, {[]int64{7}, wide, spans(7, 7+wide), api.OK}, {[]int64{0, wide}, wide, spans(0, wide, wide, 2*wide), api.OK}, {[]int64{0, wide - 1}, wide, spans(0, 2*wide-1), api.OK},
		{[]int64{7}, wide + 1, nil, api.ErrArg}, {[]int64{7}, -1, nil, api.ErrArg}, {[]int64{7}, least, nil, api.ErrArg}, {[]int64{7}, greatest, nil, api.ErrArg}, {nil, 0, nil, api.ErrArg}, {nil, wide + 1, nil, api.ErrArg}, {[]int64{}, -1, nil, api.ErrArg}, {nil, 1, nil, api.OK}, {[]int64{}, wide, nil, api.OK},

		// The first and the last time, and one past each, wherever it stands.
		{[]int64{first}, 5, spans(first, first+5), api.OK}, {[]int64{last}, 5, spans(last, last+5), api.OK}, {[]int64{last, first}, 1, spans(first, first+1, last, last+1), api.OK}, {[]int64{last, first}, wide, spans(first, first+wide, last, last+wide), api.OK}, {[]int64{last, last - wide + 1, first, first + 1}, wide, spans(first, first+1+wide, last-wide+1, last+wide), api.OK}, {[]int64{last - 1, last}, 1, spans(last-1, last, last, last+1), api.OK},
		{[]int64{first - 1}, 5, nil, api.ErrArg}, {[]int64{last + 1}, 5, nil, api.ErrArg}, {[]int64{0, 1, last + 1}, 5, nil, api.ErrArg}, {[]int64{0, first - 1, 1}, 5, nil, api.ErrArg}, {[]int64{last + 1, 0, 1}, 5, nil, api.ErrArg}, {[]int64{least}, 1, nil, api.ErrArg}, {[]int64{greatest}, wide, nil, api.ErrArg}, {[]int64{least, greatest}, 0, nil, api.ErrArg},
	} {
		if got, e := merge.Gaps(r.times, r.gap); !slices.Equal(got, r.want) || e != r.e {
			t.Errorf("Gaps(%v, %d) is %v, %v, want %v, %v", r.times, r.gap, got, e, r.want, r.e)
		}
		if got, e := gapsOf(r.times, r.gap); !slices.Equal(got, r.want) || e != r.e {
			t.Errorf("the model says of %v, %d %v, %v", r.times, r.gap, got, e)
		}
	}
}

// All lists of four small times, with all gaps that make a difference.
func TestGapsOfSmallTimes(t *testing.T) {
	for n := range int64(8 * 8 * 8 * 8) {
		times := []int64{n%8 - 4, n/8%8 - 4, n/64%8 - 4, n/512 - 4}
		for gap := int64(-1); gap <= 8; gap++ {
			got, e := merge.Gaps(times, gap)
			if want, wantE := gapsOf(times, gap); !slices.Equal(got, want) || e != wantE {
				t.Fatalf("Gaps(%v, %d) is %v, %v, want %v, %v", times, gap, got, e, want, wantE)
			}
		}
	}
}

// Lists are neither changed nor kept, the room behind them included; answers are nobody else's.
func TestSpansShareNothing(t *testing.T) {
	room := spans(5, 8, 9, 2, 0, 2, 1, 5, 20, 25, 3, 3, 30, 31, -9, -8)
	was := slices.Clone(room)
	one, two := merge.Union(room[:6]...), merge.Union(room[:6]...)
	if !slices.Equal(room, was) {
		t.Fatalf("Union leaves %v of its spans", room)
	}
	one = one[:cap(one)]
	for i := range one {
		one[i] = span(-1, -1)
	}
	if !slices.Equal(room, was) || !slices.Equal(two, spans(0, 8, 20, 25)) {
		t.Fatalf("writing over a union makes its spans %v, another one %v", room, two)
	}
	clear(room)
	if !slices.Equal(two, spans(0, 8, 20, 25)) {
		t.Fatalf("writing over the spans makes their union %v", two)
	}

	times := []int64{10, 0, 3, 8, 99, -99}
	gaps, e := merge.Gaps(times[:4], 5)
	if !slices.Equal(times, []int64{10, 0, 3, 8, 99, -99}) || e != api.OK {
		t.Fatalf("Gaps leaves %v of its times, %v", times, e)
	}
	clear(times)
	if !slices.Equal(gaps, spans(0, 8, 8, 15)) {
		t.Fatalf("writing over the times makes their sessions %v", gaps)
	}
}

func TestManySpansAndTimes(t *testing.T) {
	const many = 200000
	var l []api.Span
	var times []int64
	for i := range int64(many) {
		at := i * 7919 % many
		l, times = append(l, span(10*at, 10*at+9+at%2)), append(times, 10*at)
	}
	// Each odd one touches the one behind it; the first and the last one are by themselves.
	if got := merge.Union(l...); len(got) != many/2+1 || got[0] != span(0, 9) || got[1] != span(10, 29) || got[many/2] != span(10*many-10, 10*many) {
		t.Errorf("Union is %d spans, the first ones %v", len(got), got[:2])
	}
	if got, e := merge.Gaps(times, 10); len(got) != many || got[many-1] != span(10*(many-1), 10*many) || e != api.OK {
		t.Errorf("Gaps with 10 is %d sessions, %v", len(got), e)
	}
	if got, e := merge.Gaps(times, 11); !slices.Equal(got, spans(0, 10*(many-1)+11)) || e != api.OK {
		t.Errorf("Gaps with 11 is %d sessions, %v", len(got), e)
	}
}
