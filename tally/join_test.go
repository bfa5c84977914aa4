package tally_test

import (
	"math/rand"
	"slices"
	"testing"

	"keepsake/api"
	"keepsake/tally"
)

func list(l ...api.Tally) []api.Tally { return l }

func TestJoin(t *testing.T) {
	const most = api.MaxCount
	nothing := api.Tally{}
	for _, r := range []struct {
		l    []api.Tally
		want api.Tally
	}{
		{nil, nothing}, {list(), nothing}, {list(of(2, 5, 2, 3), nothing, of(1, -1, -1, -1)), of(3, 4, -1, 3)}, {list(of(0, 7, 7, 7), of(0, 1, 1, 1)), nothing}, {list(of(most, 0, 0, 0), of(4, 0, 0, 0)), of(most, 0, 0, 0)},

		{list(nothing), nothing}, {list(nothing, nothing), nothing}, {list(of(2, 5, 2, 3)), of(2, 5, 2, 3)}, {list(of(1, 0, 0, 0), of(1, 0, 0, 0)), of(2, 0, 0, 0)}, {list(of(2, 5, 2, 3), of(2, 9, 4, 5)), of(4, 14, 2, 5)}, {list(of(2, 9, 4, 5), of(2, 5, 2, 3)), of(4, 14, 2, 5)}, {list(of(2, 9, 2, 7), of(2, 9, 4, 5)), of(4, 18, 2, 7)},

		// Empty ones with other numbers in them, ahead, between and behind; negative Counts.
		{list(of(0, 7, -7, 77), of(2, 5, 2, 3)), of(2, 5, 2, 3)}, {list(of(2, 5, 2, 3), of(0, 7, -7, 77)), of(2, 5, 2, 3)}, {list(of(1, 4, 4, 4), of(0, 7, -7, 77), of(1, 5, 5, 5)), of(2, 9, 4, 5)}, {list(of(0, 9, 9, 9)), nothing}, {list(of(-1, 9, 9, 9)), nothing}, {list(of(least, 9, 9, 9), of(-1, 1, 1, 1)), nothing}, {list(of(-5, 9, 1, 9), of(2, 5, 2, 3), of(least, -1, 1, 9)), of(2, 5, 2, 3)}, {list(nothing, of(2, 7, 3, 4)), of(2, 7, 3, 4)}, {list(nothing, of(2, -7, -4, -3)), of(2, -7, -4, -3)},

		// Sums that go round.
		{list(of(1, greatest, greatest, greatest), of(1, 1, 1, 1)), of(2, least, 1, greatest)}, {list(of(1, least, least, least), of(1, -1, -1, -1)), of(2, greatest, least, -1)}, {list(of(3, greatest, 0, 9), of(3, greatest, 0, 9), of(3, 2, 0, 9)), of(9, 0, 0, 9)},

		// Counts at the bound, one below it, one past it, and so great that they themselves would go round.
		{list(of(most-1, 1, 1, 1), of(1, 2, 2, 2)), of(most, 3, 1, 2)}, {list(of(most-2, 1, 1, 1), of(1, 2, 2, 2)), of(most-1, 3, 1, 2)}, {list(of(most-1, 1, 1, 1), of(2, 2, 2, 2)), of(most, 3, 1, 2)}, {list(of(most, 1, 1, 1), of(most, 2, 2, 2)), of(most, 3, 1, 2)}, {list(of(most/2, 1, 1, 1), of(most/2, 2, 2, 2)), of(most, 3, 1, 2)}, {list(of(most, 1, 1, 1)), of(most, 1, 1, 1)}, {list(of(most-1, 1, 1, 1)), of(most-1, 1, 1, 1)},
		{list(of(most+1, 1, 1, 1)), of(most, 1, 1, 1)}, {list(of(greatest, 1, 1, 1)), of(most, 1, 1, 1)}, {list(of(greatest, 1, 1, 1), of(greatest, 2, 2, 2)), of(most, 3, 1, 2)}, {list(of(1, 1, 1, 1), of(greatest, 2, 2, 2), of(greatest, 3, 3, 3)), of(most, 6, 1, 3)}, {list(nothing, of(most+1, 5, 5, 5), nothing), of(most, 5, 5, 5)}, {list(of(most, 1, 1, 1), of(least, 2, 2, 2)), of(most, 1, 1, 1)},

		// Min above Max: each number goes by itself.
		{list(of(1, 1, 5, 4)), of(1, 1, 5, 4)}, {list(of(1, 1, 5, 4), of(1, 1, 7, 3)), of(2, 2, 5, 4)}, {list(of(1, 0, greatest, least), of(1, 6, 6, 6)), of(2, 6, 6, 6)},
	} {
		if got := tally.Join(r.l...); got != r.want {
			t.Errorf("Join(%v) is %v, want %v", r.l, got, r.want)
		}
		if got := joinOf(r.l...); got != r.want {
			t.Errorf("the model says of %v %v", r.l, got)
		}
	}
}

func TestJoinAtEdges(t *testing.T) {
	for _, a := range countEdges() {
		for _, b := range countEdges() {
			for _, n := range edges() {
				l := list(of(a, n, n, n), of(b, -n, 3, 5), of(1, n, -n, n))
				if got, want := tally.Join(l...), joinOf(l...); got != want {
					t.Fatalf("Join(%v) is %v, want %v", l, got, want)
				}
				if got, want := tally.Join(l[:2]...), joinOf(l[:2]...); got != want {
					t.Fatalf("Join(%v) is %v, want %v", l[:2], got, want)
				}
			}
		}
	}
}

func TestJoinOfAny(t *testing.T) {
	r := rand.New(rand.NewSource(2))
	for range 100000 {
		l := make([]api.Tally, r.Intn(6))
		for i := range l {
			l[i] = anyTally(r)
		}
		if got, want := tally.Join(l...), joinOf(l...); got != want {
			t.Fatalf("Join(%v) is %v, want %v", l, got, want)
		}
	}
}

// A list is neither changed nor kept, the room behind it included.
func TestJoinLeavesItsList(t *testing.T) {
	room := list(of(0, 7, 7, 7), of(api.MaxCount+1, 5, 2, 3), of(-1, 1, 1, 1), of(2, 6, 6, 6), of(9, 9, 9, 9))
	was := slices.Clone(room)
	one := tally.Join(room[:2]...)
	if !slices.Equal(room, was) {
		t.Fatalf("the list and what lies behind it is %v", room)
	}
	room[1] = of(1, 1000, 1000, 1000)
	if one != of(api.MaxCount, 5, 2, 3) {
		t.Fatalf("the answer has turned to %v", one)
	}
}

func FuzzJoin(f *testing.F) {
	f.Add(int64(2), int64(5), int64(2), int64(3), int64(1), int64(-1), int64(-1), int64(-1), int64(9))
	f.Add(int64(api.MaxCount), int64(8), int64(1), int64(2), int64(0), int64(7), int64(7), int64(7), int64(least))
	f.Add(int64(greatest), int64(greatest), int64(5), int64(4), int64(greatest), int64(1), int64(1), int64(1), int64(greatest))
	f.Fuzz(func(t *testing.T, ac, as, al, ah, bc, bs, bl, bh, v int64) {
		a, b := of(ac, as, al, ah), of(bc, bs, bl, bh)
		if got, want := tally.Join(a, b), joinOf(a, b); got != want {
			t.Fatalf("Join(%v, %v) is %v, want %v", a, b, got, want)
		}
		if got, want := tally.Add(a, v), joinOf(a, of(1, v, v, v)); got != want {
			t.Fatalf("Add(%v, %d) is %v, want %v", a, v, got, want)
		}
		follows(t, a, b, of(1, v, v, v))
	})
}
