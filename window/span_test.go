package window_test

import (
	"math/rand"
	"slices"
	"testing"

	"keepsake/api"
	"keepsake/window"
)

func TestOverlap(t *testing.T) {
	for _, r := range []struct {
		a, b api.Span
		want bool
	}{
		{span(0, 5), span(4, 9), true}, {span(0, 5), span(5, 9), false}, {span(0, 5), span(3, 3), false},
		{span(0, 5), span(0, 5), true}, {span(0, 9), span(3, 4), true}, {span(0, 5), span(7, 9), false}, {span(0, 5), span(4, 2), false}, {span(5, 0), span(1, 2), false},
		{span(3, 3), span(3, 3), false}, {span(9, 0), span(9, 0), false}, {span(0, 0), span(-1, 1), false}, {api.Span{}, api.Span{}, false},
		{span(least, greatest), span(least, least+1), true}, {span(least, greatest), span(greatest-1, greatest), true}, {span(least, 0), span(0, greatest), false}, {span(least, 1), span(0, greatest), true},
		{span(least, greatest), span(greatest, greatest), false}, {span(greatest, least), span(least, greatest), false},
	} {
		if window.Overlap(r.a, r.b) != r.want || window.Overlap(r.b, r.a) != r.want {
			t.Errorf("Overlap(%v, %v) is %t, the other way round %t", r.a, r.b, window.Overlap(r.a, r.b), window.Overlap(r.b, r.a))
		}
	}
}

// smallSpans are all spans between two numbers, those that hold no time among them.
func smallSpans(from, to int64) []api.Span {
	var l []api.Span
	for start := from; start <= to; start++ {
		for end := from; end <= to; end++ {
			l = append(l, span(start, end))
		}
	}
	return l
}

func TestOverlapIsATimeInCommon(t *testing.T) {
	holds := func(s api.Span, n int64) bool { return s.Start <= n && n < s.End }
	for _, a := range smallSpans(-3, 4) {
		for _, b := range smallSpans(-3, 4) {
			want := false
			for n := int64(-3); n <= 4; n++ {
				want = want || holds(a, n) && holds(b, n)
			}
			if window.Overlap(a, b) != want {
				t.Fatalf("Overlap(%v, %v) is %t", a, b, !want)
			}
		}
	}
}

func TestJoin(t *testing.T) {
	for _, r := range []struct {
		l, want []api.Span
	}{
		{spans(0, 5, 9, 2, 4, 9), spans(0, 9)}, {nil, nil}, {[]api.Span{}, nil},
		{spans(3, 7), spans(3, 7)}, {spans(3, 3), nil}, {spans(7, 3), nil}, {spans(0, 0), nil}, {spans(5, 5, 9, 2, -4, -4), nil},
		{spans(5, 6, 1, 2), spans(1, 6)}, {spans(1, 2, 5, 6), spans(1, 6)}, {spans(0, 9, 3, 4), spans(0, 9)}, {spans(3, 4, 0, 9), spans(0, 9)},
		{spans(5, 6, 5, 6, 5, 6), spans(5, 6)}, {spans(-9, -8, -5, -3), spans(-9, -3)}, {spans(5, 9, 7, 8), spans(5, 9)},
		{spans(-50, -50, 5, 9, 50, 50), spans(5, 9)}, {spans(100, -100, 5, 9), spans(5, 9)}, {spans(5, 9, 100, -100), spans(5, 9)},
		{spans(least, least+1, greatest-1, greatest), spans(least, greatest)}, {spans(greatest, least), nil}, {spans(least, greatest), spans(least, greatest)},
	} {
		var want api.Span
		for _, s := range r.want {
			want = s
		}
		if got, ok := window.Join(r.l...); got != want || ok != (r.want != nil) {
			t.Errorf("Join(%v) is %v, %t, want %v", r.l, got, ok, r.want)
		}
	}
}

func TestJoinOfAny(t *testing.T) {
	r := rand.New(rand.NewSource(2))
	for range 20000 {
		l := make([]api.Span, r.Intn(8))
		var starts, ends []int64
		for i := range l {
			l[i] = span(anyNumber(r), anyNumber(r))
			if l[i].Start < l[i].End {
				starts, ends = append(starts, l[i].Start), append(ends, l[i].End)
			}
		}
		var want api.Span
		if len(starts) > 0 {
			want = span(slices.Min(starts), slices.Max(ends))
		}
		if got, ok := window.Join(l...); got != want || ok != (len(starts) > 0) {
			t.Fatalf("Join(%v) is %v, %t, want %v", l, got, ok, want)
		}
	}
}

func TestJoinLeavesItsListAlone(t *testing.T) {
	room := spans(5, 9, 9, 2, 0, 3, 100, 200, -200, -100)
	was := slices.Clone(room)
	list := room[:3]
	if got, ok := window.Join(list...); got != span(0, 9) || !ok || !slices.Equal(room, was) {
		t.Errorf("Join is %v, %t, the list %v then", got, ok, room)
	}
}

// The spans of rising starts, and of one start of rising ends, rise.
func TestCompare(t *testing.T) {
	numbers := []int64{least, least + 1, -5, -1, 0, 1, 5, greatest - 1, greatest}
	var rising []api.Span
	for _, start := range numbers {
		for _, end := range numbers {
			rising = append(rising, span(start, end))
		}
	}
	for i, a := range rising {
		for j, b := range rising {
			want := 0
			if i < j {
				want = -1
			} else if i > j {
				want = 1
			}
			if c := window.Compare(a, b); c != want {
				t.Fatalf("Compare(%v, %v) is %d, want %d", a, b, c, want)
			}
		}
	}
}

func TestDue(t *testing.T) {
	for _, r := range []struct {
		s    api.Span
		w    int64
		want bool
	}{
		{span(0, 5), 5, true}, {span(0, 5), 4, false}, {span(0, 5), 6, true},
		{span(5, 0), 0, true}, {span(5, 0), -1, false}, {span(9, 9), 9, true}, {span(-9, -3), -3, true}, {span(-9, -3), -4, false},
		{span(0, greatest), greatest, true}, {span(0, greatest), greatest - 1, false}, {span(0, least), least, true}, {span(least, least+1), least, false},
		{span(0, api.MaxTime), api.MaxTime, true}, {span(0, api.MaxTime+1), api.MaxTime, false},
	} {
		if window.Due(r.s, r.w) != r.want {
			t.Errorf("Due(%v, %d) is %t", r.s, r.w, !r.want)
		}
	}
}

func TestOver(t *testing.T) {
	for _, r := range []struct {
		s       api.Span
		late, w int64
		want    bool
	}{
		{span(0, 5), 2, 6, false}, {span(0, 5), 2, 7, true}, {span(0, 5), 2, 8, true}, {span(0, 5), 0, 5, true}, {span(0, 5), 0, 4, false},
		{span(0, 5), -2, 3, true}, {span(0, 5), -2, 2, false}, {span(7, 5), 2, 7, true}, {span(5, 5), 2, 6, false},
		{span(0, greatest), 0, greatest, true}, {span(0, greatest), 1, greatest, false}, {span(0, greatest), greatest, greatest, false}, {span(0, greatest), 1, least, false}, {span(0, greatest), greatest, -2, false},
		{span(0, greatest-1), 1, greatest, true}, {span(0, greatest-1), 1, greatest - 1, false}, {span(0, greatest-1), 2, greatest, false},
		{span(0, api.MaxTime), api.MaxTime - 1, greatest, true}, {span(0, api.MaxTime), api.MaxTime, greatest, false}, {span(0, 1), greatest, greatest, false}, {span(0, 0), greatest, greatest, true},
		{span(0, least), -1, least, true}, {span(0, least), least, least, true}, {span(0, least), 0, least, true}, {span(0, least), 1, least, false}, {span(0, least), 1, least + 1, true}, {span(0, -1), least, least, true},
		{span(0, least+1), -1, least, true}, {span(0, least+1), -2, least, true}, {span(0, 0), least, least, true}, {span(0, 1), least, least, false}, {span(0, greatest), least, -1, true}, {span(0, greatest), least, -2, false},
	} {
		if window.Over(r.s, r.late, r.w) != r.want {
			t.Errorf("Over(%v, %d, %d) is %t", r.s, r.late, r.w, !r.want)
		}
	}
}

func TestDueAndOverAtEdges(t *testing.T) {
	for _, end := range edges() {
		for _, w := range edges() {
			for _, start := range []int64{least, 0, end, greatest} {
				s := span(start, end)
				if want := whole(end).Cmp(whole(w)) <= 0; window.Due(s, w) != want {
					t.Fatalf("Due(%v, %d) is %t", s, w, !want)
				}
				for _, late := range edges() {
					if want := sum(end, late).Cmp(whole(w)) <= 0; window.Over(s, late, w) != want {
						t.Fatalf("Over(%v, %d, %d) is %t", s, late, w, !want)
					}
				}
			}
		}
	}
}
