package merge_test

import (
	"slices"
	"testing"

	"keepsake/api"
	"keepsake/merge"
)

// joining is a call of Join with what it must answer.
type joining struct {
	l     []api.Win
	s     api.Span
	w, h  int64
	want  []api.Win
	place int
}

// try looks whether Join answers so, and whether the model does.
func (j joining) try(t *testing.T) {
	t.Helper()
	if got, place, e := merge.Join(j.l, j.s, j.w, j.h); !slices.Equal(got, j.want) || place != j.place || e != api.OK {
		t.Errorf("Join(%v, %v, %d, %d) is %v, %d, %v, want %v, %d", j.l, j.s, j.w, j.h, got, place, e, j.want, j.place)
	}
	if got, place, e := joinOf(j.l, j.s, j.w, j.h); !slices.Equal(got, j.want) || place != j.place || e != api.OK {
		t.Errorf("the model says of %v, %v, %d, %d %v, %d, %v", j.l, j.s, j.w, j.h, got, place, e)
	}
}

func TestJoin(t *testing.T) {
	a, b, c := win(0, 5, 2, 7, 3, 4, 1, 1, 0), win(5, 8, 1, 9, 9, 9, 1, 0, 5), win(20, 25, 4, 8, 1, 3, 2, 6, 21)
	for _, j := range []joining{
		// The chapter's.
		{nil, span(3, 8), 0, 3, row(win(3, 8, 0, 0, 0, 0, 0, 0, 3)), 0},
		{row(a, b, c), span(4, 6), 5, 6, row(win(0, 8, 3, 16, 3, 9, 2, 1, 5), c), 0},

		// None: ahead of all, between, behind all; touching and not.
		{row(a, b, c), span(-3, 0), 0, 9, row(win(-3, 0, 0, 0, 0, 0, 0, 0, 9), a, b, c), 0},
		{row(a, b, c), span(-9, -3), 0, 9, row(win(-9, -3, 0, 0, 0, 0, 0, 0, 9), a, b, c), 0},
		{row(a, b, c), span(8, 20), 0, 9, row(a, b, win(8, 20, 0, 0, 0, 0, 0, 0, 9), c), 2},
		{row(a, b, c), span(10, 11), 0, 9, row(a, b, win(10, 11, 0, 0, 0, 0, 0, 0, 9), c), 2},
		{row(a, c), span(5, 8), 0, 9, row(a, win(5, 8, 0, 0, 0, 0, 0, 0, 9), c), 1},
		{row(a, b, c), span(25, 30), 0, 9, row(a, b, c, win(25, 30, 0, 0, 0, 0, 0, 0, 9)), 3},
		{row(a, b, c), span(40, 41), 0, 9, row(a, b, c, win(40, 41, 0, 0, 0, 0, 0, 0, 9)), 3},

		// One: the span within it, the same, over its Start, over its End, over both.
		{row(a, b, c), span(6, 7), 0, 9, row(a, b, c), 1},
		{row(a, b, c), span(5, 8), 0, 9, row(a, b, c), 1},
		{row(a, b, c), span(15, 21), 0, 99, row(a, b, win(15, 25, 4, 8, 1, 3, 2, 6, 21)), 2},
		{row(a, b, c), span(24, 30), 0, 99, row(a, b, win(20, 30, 4, 8, 1, 3, 2, 6, 21)), 2},
		{row(a, b, c), span(8, 99), 0, 99, row(a, b, win(8, 99, 4, 8, 1, 3, 2, 6, 21)), 2},
		{row(a, b, c), span(-9, 1), 0, 99, row(win(-9, 5, 2, 7, 3, 4, 1, 1, 0), b, c), 0},
		{row(a, b, c), span(7, 20), 0, 99, row(a, win(5, 20, 1, 9, 9, 9, 1, 0, 5), c), 1},

		// Several, and all.
		{row(a, b, c), span(7, 21), 0, 99, row(a, win(5, 25, 5, 17, 1, 9, 3, 6, 5)), 1},
		{row(a, b, c), span(4, 21), 0, 99, row(win(0, 25, 7, 24, 1, 9, 4, 7, 0)), 0},
		{row(a, b, c), span(-1, 30), 0, 99, row(win(-1, 30, 7, 24, 1, 9, 4, 7, 0)), 0},
		{row(a, b, c), span(least, greatest), 0, 99, row(win(least, greatest, 7, 24, 1, 9, 4, 7, 0)), 0},

		// All numbers there are.
		{nil, span(least, greatest), least, greatest, row(win(least, greatest, 0, 0, 0, 0, 0, 0, greatest)), 0},
		{bare(least, 0, 0, greatest), span(-1, 1), 0, 5, row(win(least, greatest, 0, 0, 0, 0, 0, 0, 0)), 0},
	} {
		j.try(t)
	}
}

func TestJoinRefuses(t *testing.T) {
	for _, r := range []struct {
		l []api.Win
		s api.Span
	}{{bare(5, 8, 0, 5), span(1, 2)}, {bare(0, 5, 4, 8), span(1, 2)}, {bare(0, 5, 5, 8), span(3, 3)}} {
		if got, place, e := merge.Join(r.l, r.s, 0, 0); len(got) != 0 || place != 0 || e != api.ErrRow {
			t.Errorf("Join(%v, %v) is %v, %d, %v", r.l, r.s, got, place, e)
		}
	}
}

// Which Holds count: h, and those of windows whose End is above w, not at it.
func TestHolds(t *testing.T) {
	l := row(win(0, 5, 0, 0, 0, 0, 0, 0, 10), win(5, 8, 0, 0, 0, 0, 0, 0, 20), win(8, 12, 0, 0, 0, 0, 0, 0, 30))
	for _, r := range []struct{ w, h, want int64 }{
		{4, 99, 10}, {5, 99, 20}, {6, 99, 20}, {7, 99, 20}, {8, 99, 30}, {11, 99, 30}, {12, 99, 99}, {13, 99, 99}, {least, 99, 10}, {greatest, 99, 99},
		{4, 9, 9}, {4, 10, 10}, {4, 11, 10}, {5, 15, 15}, {5, 20, 20}, {5, 21, 20}, {8, 25, 25}, {12, 5, 5}, {12, least, least}, {0, least, least}, {12, greatest, greatest}, {0, greatest, 10},
	} {
		joining{l, span(1, 11), r.w, r.h, row(win(0, 12, 0, 0, 0, 0, 0, 0, r.want)), 0}.try(t)
	}
	// The span's own End, and that of the joined window, do not say what is due.
	joining{l, span(4, 40), 12, 99, row(win(0, 40, 0, 0, 0, 0, 0, 0, 99)), 0}.try(t)
	joining{l, span(1, 6), 5, 99, row(win(0, 8, 0, 0, 0, 0, 0, 0, 20), l[2]), 0}.try(t)
	// The Hold of a window that is not overlapped does not count.
	joining{l, span(8, 9), 0, 99, row(l[0], l[1], l[2]), 2}.try(t)
	joining{l, span(12, 13), 0, 99, row(l[0], l[1], l[2], win(12, 13, 0, 0, 0, 0, 0, 0, 99)), 3}.try(t)
	// Due or not is asked of each: a later window may hold less than one that is due.
	joining{row(win(0, 5, 0, 0, 0, 0, 0, 0, least), win(5, 8, 0, 0, 0, 0, 0, 0, -7)), span(4, 6), 5, 0, row(win(0, 8, 0, 0, 0, 0, 0, 0, -7)), 0}.try(t)
	joining{row(win(0, greatest, 0, 0, 0, 0, 0, 0, -7)), span(4, 6), greatest - 1, 0, row(win(0, greatest, 0, 0, 0, 0, 0, 0, -7)), 0}.try(t)
	joining{row(win(0, greatest, 0, 0, 0, 0, 0, 0, -7)), span(4, 6), greatest, 0, row(win(0, greatest, 0, 0, 0, 0, 0, 0, 0)), 0}.try(t)
}

// Count, Since and Panes: each by itself at the bound, one below it, one past it.
func TestCountsGoNoFurther(t *testing.T) {
	for _, r := range []struct{ a, b, want int64 }{
		{0, 0, 0}, {0, 1, 1}, {2, 3, 5}, {most, 0, most}, {0, most, most}, {most - 1, 0, most - 1}, {most - 2, 1, most - 1}, {most - 1, 1, most}, {1, most - 1, most}, {most - 1, 2, most}, {most, 1, most}, {1, most, most}, {most, most, most}, {most / 2, most / 2, most}, {most / 2, most/2 - 1, most - 1}, {most / 2, most/2 + 1, most},
	} {
		joining{row(win(0, 5, 0, 0, 0, 0, r.a, 3, 0), win(5, 8, 0, 0, 0, 0, r.b, 4, 0)), span(4, 6), 0, 0, row(win(0, 8, 0, 0, 0, 0, r.want, 7, 0)), 0}.try(t)
		joining{row(win(0, 5, 0, 0, 0, 0, 3, r.a, 0), win(5, 8, 0, 0, 0, 0, 4, r.b, 0)), span(4, 6), 0, 0, row(win(0, 8, 0, 0, 0, 0, 7, r.want, 0)), 0}.try(t)
		if r.a > 0 && r.b > 0 {
			joining{row(win(0, 5, r.a, 1, 1, 1, 0, 0, 0), win(5, 8, r.b, 2, 2, 2, 0, 0, 0)), span(4, 6), 0, 0, row(win(0, 8, r.want, 3, 1, 2, 0, 0, 0)), 0}.try(t)
		}
	}
	// So many of them that their sum would go round, if it were not held.
	var l []api.Win
	for i := range int64(1100) {
		l = append(l, win(i, i+1, most, 1, 1, 1, most, most, 0))
	}
	joining{l, span(0, 1100), 0, 0, row(win(0, 1100, most, 1100, 1, 1, most, most, 0)), 0}.try(t)
}

func TestTallies(t *testing.T) {
	for _, r := range []struct{ a, b, want api.Tally }{
		{api.Tally{Count: 2, Sum: 5, Min: 2, Max: 3}, api.Tally{Count: 1, Sum: -1, Min: -1, Max: -1}, api.Tally{Count: 3, Sum: 4, Min: -1, Max: 3}},
		{api.Tally{}, api.Tally{Count: 1, Sum: 4, Min: 4, Max: 4}, api.Tally{Count: 1, Sum: 4, Min: 4, Max: 4}},
		{api.Tally{Count: 1, Sum: -4, Min: -4, Max: -4}, api.Tally{}, api.Tally{Count: 1, Sum: -4, Min: -4, Max: -4}},
		{api.Tally{}, api.Tally{}, api.Tally{}},
		// Of Count 0 it is nothing, whatever else stands in it.
		{api.Tally{Sum: 7, Min: -7, Max: 77}, api.Tally{Count: 1, Sum: 4, Min: 4, Max: 4}, api.Tally{Count: 1, Sum: 4, Min: 4, Max: 4}},
		{api.Tally{Count: 1, Sum: 4, Min: 4, Max: 4}, api.Tally{Sum: 7, Min: -7, Max: 77}, api.Tally{Count: 1, Sum: 4, Min: 4, Max: 4}},
		{api.Tally{Sum: 7, Min: -7, Max: 77}, api.Tally{Sum: 1, Min: 1, Max: 1}, api.Tally{}},
		// Sums go round.
		{api.Tally{Count: 1, Sum: greatest, Min: greatest, Max: greatest}, api.Tally{Count: 1, Sum: 1, Min: 1, Max: 1}, api.Tally{Count: 2, Sum: least, Min: 1, Max: greatest}},
		{api.Tally{Count: 1, Sum: least, Min: least, Max: least}, api.Tally{Count: 1, Sum: -1, Min: -1, Max: -1}, api.Tally{Count: 2, Sum: greatest, Min: least, Max: -1}},
		// What can't be is put together, too.
		{api.Tally{Count: 3, Sum: 1, Min: 5, Max: 4}, api.Tally{Count: 1, Sum: 1, Min: 7, Max: 3}, api.Tally{Count: 4, Sum: 2, Min: 5, Max: 4}},
	} {
		a, b := api.Win{Span: span(0, 5), Tally: r.a}, api.Win{Span: span(5, 8), Tally: r.b}
		joining{row(a, b), span(4, 6), 0, 0, row(api.Win{Span: span(0, 8), Tally: r.want}), 0}.try(t)
		// Due or not: the tally counts.
		joining{row(a, b), span(4, 6), 99, 0, row(api.Win{Span: span(0, 8), Tally: r.want}), 0}.try(t)
	}
	empty := win(0, 5, 0, 7, -7, 77, 2, 3, 0)
	joining{row(empty), span(4, 6), 0, 0, row(win(0, 6, 0, 0, 0, 0, 2, 3, 0)), 0}.try(t)
	joining{row(empty), span(5, 6), 0, 0, row(empty, win(5, 6, 0, 0, 0, 0, 0, 0, 0)), 1}.try(t)
}

// A row is neither changed nor kept, the room behind it included; an answer is nobody else's.
func TestJoinSharesNothing(t *testing.T) {
	for _, s := range spans(4, 6, 6, 7, -3, 0, 8, 20, 30, 31, -9, 99, 24, 30) {
		room := append(filled(spans(0, 5, 5, 8, 20, 25)), filled(spans(50, 51, 60, 61))...)
		was := slices.Clone(room)
		one, _, _ := merge.Join(room[:3], s, 0, 9)
		two, _, _ := merge.Join(room[:3], s, 0, 9)
		merge.Touch(room[:3], s)
		merge.Apart(room[:3])
		if !slices.Equal(room, was) {
			t.Fatalf("Join by %v leaves %v of its row", s, room)
		}
		one = one[:cap(one)]
		for i := range one {
			one[i] = win(-1, -1, -1, -1, -1, -1, -1, -1, -1)
		}
		if want, _, _ := joinOf(was[:3], s, 0, 9); !slices.Equal(room, was) || !slices.Equal(two, want) {
			t.Fatalf("Join by %v: writing over the answer makes the row %v, another answer %v", s, room, two)
		}
		for i := range room {
			room[i] = api.Win{}
		}
		if want, _, _ := joinOf(was[:3], s, 0, 9); !slices.Equal(two, want) {
			t.Fatalf("Join by %v: writing over the row makes the answer %v", s, two)
		}
	}
}
