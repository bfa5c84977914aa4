package merge_test

import (
	"math/rand"
	"slices"
	"testing"

	"keepsake/api"
	"keepsake/merge"
)

// wrongRows are lists that are no rows of sessions: each flaw, first, between and last.
func wrongRows() [][]api.Win {
	good := row(win(0, 5, 2, 7, 3, 4, 1, 1, 0), win(5, 8, 1, 9, 9, 9, 1, 0, 5), win(20, 25, 1, 1, 1, 1, 0, 0, 0))
	all := [][]api.Win{
		row(good[1], good[0]), row(good[0], good[2], good[1]), row(good[2], good[0], good[1]), row(good[0], good[0]), row(good[2], good[1], good[0]),
		bare(0, 5, 4, 8), bare(0, 5, 0, 5), bare(0, 5, 0, 8), bare(0, 9, 3, 5), bare(3, 5, 0, 9), bare(0, 9, 9, 12, 11, 14), bare(0, 9, 1, 2, 20, 25), bare(0, 9, 1, 2, 9, 12), bare(0, 5, 3, 7, 5, 9),
		bare(least, greatest, 0, 1), bare(least, 1, 0, greatest), bare(0, greatest, least, 0),
	}
	for i := range good {
		for _, end := range []int64{good[i].Start, good[i].Start - 1, least} {
			l := slices.Clone(good)
			l[i].End = end
			all = append(all, l, row(l[i]))
		}
		for _, n := range []int64{least, -most, -1, most + 1, greatest} {
			count, since, panes := slices.Clone(good), slices.Clone(good), slices.Clone(good)
			count[i].Count, since[i].Since, panes[i].Panes = n, n, n
			all = append(all, count, since, panes, row(count[i]), row(since[i]), row(panes[i]))
		}
	}
	return append(all, bare(0, 0), bare(3, 2), bare(greatest, least), bare(least, least), bare(greatest, greatest))
}

// goodRows are rows of sessions, in which there may be anything that is not looked at.
func goodRows() [][]api.Win {
	all := [][]api.Win{
		nil, {}, bare(0, 1), bare(0, 5, 5, 8, 20, 25), bare(-9, -5, -5, -4, -1, 0, 0, 3), bare(least, greatest), bare(least, least+1, greatest-1, greatest), bare(least, 0, 0, greatest),
		bare(api.MinTime-api.MaxSpan-1, api.MinTime, api.MaxTime, api.MaxTime+api.MaxSpan+1),
		row(win(0, 5, 0, 9, 8, 7, 0, 0, 0), win(5, 6, 3, -1, greatest, least, 0, 0, greatest), win(6, 7, 1, 2, 3, 4, 0, 0, least)),
		row(win(0, 5, 1, 1, 1, 1, 9, 9, 0), win(7, 9, 0, 0, 0, 0, most, most, 99)),
	}
	for _, n := range []int64{0, 1, most - 1, most} {
		all = append(all, row(win(0, 5, n, 1, 1, 1, 0, 0, 0), win(5, 6, 0, 0, 0, 0, n, 0, 0), win(8, 9, 0, 0, 0, 0, 0, n, 0), win(9, 10, n, 0, 0, 0, n, n, 0)))
	}
	return all
}

func TestApart(t *testing.T) {
	for _, l := range goodRows() {
		if !merge.Apart(l) || !apartOf(l) {
			t.Errorf("Apart(%v) is %t, the model says %t", l, merge.Apart(l), apartOf(l))
		}
	}
	for _, l := range wrongRows() {
		if merge.Apart(l) || apartOf(l) {
			t.Errorf("Apart(%v) is %t, the model says %t", l, merge.Apart(l), apartOf(l))
		}
	}
}

// All lists of at most three spans between two numbers, those that are no rows among them.
func TestApartOfSmallLists(t *testing.T) {
	var one, two, three int
	all := smallSpans(0, 4)
	looks := func(numbers ...api.Span) int {
		l := filled(numbers)
		want := apartOf(l)
		if got := merge.Apart(l); got != want {
			t.Fatalf("Apart(%v) is %t", l, got)
		}
		if want {
			return 1
		}
		return 0
	}
	for _, a := range all {
		one += looks(a)
		for _, b := range all {
			two += looks(a, b)
			for _, c := range all {
				three += looks(a, b, c)
			}
		}
	}
	// Counted by hand: of 5 numbers a span takes 2; two that lie apart take 4, or 3 if they touch; three take 5 if two of them touch (in one of two ways), or 4 if all do.
	if one != 10 || two != 5+10 || three != 2*1+5 {
		t.Errorf("%d, %d and %d of them are rows", one, two, three)
	}
}

func TestTouch(t *testing.T) {
	l := bare(0, 5, 5, 8, 20, 25)
	for _, r := range []struct {
		s            api.Span
		from, behind int
	}{
		{span(4, 6), 0, 2}, {span(8, 20), 2, 2}, {span(30, 31), 3, 3},

		// None of them: ahead of all, between, behind all; touching and not.
		{span(-3, 0), 0, 0}, {span(-9, -3), 0, 0}, {span(least, 0), 0, 0}, {span(9, 10), 2, 2}, {span(8, 9), 2, 2}, {span(19, 20), 2, 2}, {span(25, 26), 3, 3}, {span(25, greatest), 3, 3}, {span(greatest-1, greatest), 3, 3}, {span(least, least+1), 0, 0},

		// One of them.
		{span(-3, 1), 0, 1}, {span(0, 1), 0, 1}, {span(4, 5), 0, 1}, {span(0, 5), 0, 1}, {span(2, 3), 0, 1}, {span(-1, 5), 0, 1}, {span(5, 6), 1, 2}, {span(7, 8), 1, 2}, {span(5, 8), 1, 2}, {span(5, 20), 1, 2}, {span(7, 9), 1, 2}, {span(8, 21), 2, 3}, {span(20, 25), 2, 3}, {span(24, 25), 2, 3}, {span(24, 99), 2, 3}, {span(10, greatest), 2, 3},

		// Several, and all.
		{span(-3, 6), 0, 2}, {span(0, 20), 0, 2}, {span(4, 9), 0, 2}, {span(7, 21), 1, 3}, {span(5, 99), 1, 3}, {span(4, 21), 0, 3}, {span(-3, 90), 0, 3}, {span(0, 25), 0, 3}, {span(least, greatest), 0, 3},
	} {
		if from, behind, e := merge.Touch(l, r.s); from != r.from || behind != r.behind || e != api.OK {
			t.Errorf("Touch(%v) is %d, %d, %v, want %d, %d", r.s, from, behind, e, r.from, r.behind)
		}
		if from, behind, _ := touchOf(l, r.s); from != r.from || behind != r.behind {
			t.Errorf("the model says of %v %d, %d", r.s, from, behind)
		}
	}
	for _, none := range [][]api.Win{nil, {}} {
		for _, s := range spans(0, 1, -5, 5, least, greatest, least, least+1, greatest-1, greatest) {
			if from, behind, e := merge.Touch(none, s); from != 0 || behind != 0 || e != api.OK {
				t.Errorf("Touch(no window, %v) is %d, %d, %v", s, from, behind, e)
			}
		}
	}
}

func TestWrongRowsAndSpansAreRefused(t *testing.T) {
	refused := func(l []api.Win, s api.Span) {
		t.Helper()
		if from, behind, e := merge.Touch(l, s); from != 0 || behind != 0 || e != api.ErrRow {
			t.Errorf("Touch(%v, %v) is %d, %d, %v", l, s, from, behind, e)
		}
		if got, place, e := merge.Join(l, s, 3, 4); len(got) != 0 || place != 0 || e != api.ErrRow {
			t.Errorf("Join(%v, %v) is %v, %d, %v", l, s, got, place, e)
		}
	}
	for _, l := range wrongRows() {
		// The flaw is found wherever the span lies.
		for _, s := range spans(1, 2, 6, 7, 21, 22, -9, -8, 99, 100, least, greatest, 3, 3) {
			refused(l, s)
		}
	}
	for _, l := range goodRows() {
		for _, s := range spans(3, 3, 0, 0, 4, 3, 20, 0, -1, -1, greatest, least, least, least, greatest, greatest, 1, 0) {
			refused(l, s)
		}
		if _, _, e := merge.Touch(l, span(3, 4)); e != api.OK {
			t.Errorf("Touch(%v) is %v", l, e)
		}
		if _, _, e := merge.Join(l, span(3, 4), 0, 0); e != api.OK {
			t.Errorf("Join(%v) is %v", l, e)
		}
	}
}

// touches holds Touch and Join against the model.
func touches(t *testing.T, l []api.Win, s api.Span, w, h int64) {
	t.Helper()
	from, behind, e := merge.Touch(l, s)
	if wantFrom, wantBehind, want := touchOf(l, s); from != wantFrom || behind != wantBehind || e != want {
		t.Fatalf("Touch(%v, %v) is %d, %d, %v, want %d, %d, %v", l, s, from, behind, e, wantFrom, wantBehind, want)
	}
	got, place, e := merge.Join(l, s, w, h)
	if wantRow, wantPlace, want := joinOf(l, s, w, h); !slices.Equal(got, wantRow) || place != wantPlace || e != want {
		t.Fatalf("Join(%v, %v, %d, %d) is %v, %d, %v, want %v, %d, %v", l, s, w, h, got, place, e, wantRow, wantPlace, want)
	}
}

// All rows and spans between two numbers.
func TestSmallRows(t *testing.T) {
	for _, l := range smallRows(0, 6) {
		for _, s := range smallSpans(-1, 7) {
			for _, w := range []int64{least, 0, 1, 3, 4, 6, greatest} {
				touches(t, filled(l), s, w, 3)
			}
		}
	}
}

func TestAnyRows(t *testing.T) {
	r := rand.New(rand.NewSource(1))
	for i := range 50000 {
		wide := i%2 == 0
		l := anyRow(r, wide)
		touches(t, l, anySpan(r, wide), drawn(r, wide), drawn(r, wide))
		if len(l) > 0 && i%5 == 0 {
			l[r.Intn(len(l))] = anyWin(r, anySpan(r, wide))
			touches(t, l, anySpan(r, wide), drawn(r, wide), drawn(r, wide))
		}
	}
}

// Many windows, of which a span overlaps few: the places are found at all of them.
func TestLongRow(t *testing.T) {
	const many = 1000
	var l []api.Win
	for i := range int64(many) {
		l = append(l, win(10*i, 10*i+6, 1, i, i, i, 1, 1, i))
	}
	for i := range many {
		at := 10 * int64(i)
		for _, r := range []struct {
			s            api.Span
			from, behind int
		}{{span(at+5, at+6), i, i + 1}, {span(at+6, at+10), i + 1, i + 1}, {span(at+5, at+11), i, min(i+2, many)}, {span(at-1, at), i, i}, {span(at-1, at+1), i, i + 1}, {span(-1, at+1), 0, i + 1}, {span(at, greatest), i, many}} {
			if from, behind, e := merge.Touch(l, r.s); from != r.from || behind != r.behind || e != api.OK {
				t.Fatalf("Touch(%v) is %d, %d, %v, want %d, %d", r.s, from, behind, e, r.from, r.behind)
			}
		}
	}
	got, place, e := merge.Join(l, span(-1, 10*many), least, 77)
	if want := row(win(-1, 10*many, many, many*(many-1)/2, 0, many-1, many, many, 0)); !slices.Equal(got, want) || place != 0 || e != api.OK {
		t.Errorf("Join of all is %v, %d, %v, want %v", got, place, e, want)
	}
}
