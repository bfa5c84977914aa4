package tally_test

import (
	"math/rand"
	"slices"
	"testing"

	"keepsake/api"
	"keepsake/tally"
)

func TestOf(t *testing.T) {
	for _, r := range []struct {
		values []int64
		want   api.Tally
	}{
		{nil, of(0, 0, 0, 0)}, {[]int64{}, of(0, 0, 0, 0)}, {[]int64{3, -1, 3}, of(3, 5, -1, 3)},

		{[]int64{0}, of(1, 0, 0, 0)}, {[]int64{0, 0}, of(2, 0, 0, 0)}, {[]int64{7}, of(1, 7, 7, 7)}, {[]int64{-7}, of(1, -7, -7, -7)}, {[]int64{5, 9}, of(2, 14, 5, 9)}, {[]int64{9, 5}, of(2, 14, 5, 9)}, {[]int64{-5, -9}, of(2, -14, -9, -5)}, {[]int64{-5, 0, 5}, of(3, 0, -5, 5)},
		{[]int64{greatest}, of(1, greatest, greatest, greatest)}, {[]int64{least}, of(1, least, least, least)},

		// Sums that go round.
		{[]int64{greatest, 1}, of(2, least, 1, greatest)}, {[]int64{least, -1}, of(2, greatest, least, -1)}, {[]int64{greatest, greatest}, of(2, -2, greatest, greatest)}, {[]int64{least, least}, of(2, 0, least, least)}, {[]int64{least, greatest}, of(2, -1, least, greatest)}, {[]int64{least, least, least}, of(3, least, least, least)}, {[]int64{greatest, greatest, greatest}, of(3, greatest-2, greatest, greatest)},
	} {
		if got := tally.Of(r.values...); got != r.want {
			t.Errorf("Of(%v) is %v, want %v", r.values, got, r.want)
		}
		if got := tallyOf(r.values...); got != r.want {
			t.Errorf("the model says of %v %v", r.values, got)
		}
	}
}

func TestAdd(t *testing.T) {
	const most = api.MaxCount
	for _, r := range []struct {
		t    api.Tally
		v    int64
		want api.Tally
	}{
		{of(0, 0, 0, 0), -4, of(1, -4, -4, -4)}, {of(1, 5, 5, 5), 7, of(2, 12, 5, 7)}, {of(0, 9, 9, 9), 2, of(1, 2, 2, 2)},
		{of(1, greatest, greatest, greatest), 1, of(2, least, 1, greatest)}, {of(most, 8, 1, 2), 5, of(most, 13, 1, 5)},

		{of(2, 5, 2, 3), 2, of(3, 7, 2, 3)}, {of(2, 5, 2, 3), 3, of(3, 8, 2, 3)}, {of(2, 5, 2, 3), 1, of(3, 6, 1, 3)}, {of(2, 5, 2, 3), 4, of(3, 9, 2, 4)}, {of(2, 5, 2, 3), 0, of(3, 5, 0, 3)}, {of(2, -5, -3, -2), 0, of(3, -5, -3, 0)},

		// Empty ones with other numbers in them, and with negative Counts.
		{of(0, -9, -9, -9), 2, of(1, 2, 2, 2)}, {of(0, 9, -9, 9), 0, of(1, 0, 0, 0)}, {of(-1, 9, 9, 9), 2, of(1, 2, 2, 2)}, {of(-1, 0, 0, 0), 2, of(1, 2, 2, 2)}, {of(least, least, least, greatest), greatest, of(1, greatest, greatest, greatest)}, {of(least, 7, 7, 7), least, of(1, least, least, least)},

		// Sums that go round.
		{of(1, least, least, least), -1, of(2, greatest, least, -1)}, {of(1, least, least, least), least, of(2, 0, least, least)}, {of(9, greatest, 1, 2), greatest, of(10, -2, 1, greatest)},

		// Counts at the bound, one below it, one past it and far past it.
		{of(most-2, 8, 1, 2), 5, of(most-1, 13, 1, 5)}, {of(most-1, 8, 1, 2), 5, of(most, 13, 1, 5)}, {of(most, 8, 1, 2), 0, of(most, 8, 0, 2)}, {of(most+1, 8, 1, 2), 5, of(most, 13, 1, 5)}, {of(greatest-1, 8, 1, 2), 5, of(most, 13, 1, 5)}, {of(greatest, 8, 1, 2), 5, of(most, 13, 1, 5)},

		// Min above Max, and sums that can't be: each number goes by itself.
		{of(1, 1, 5, 4), 6, of(2, 7, 5, 6)}, {of(1, 1, 5, 4), 3, of(2, 4, 3, 4)}, {of(1, 0, 9, -9), 0, of(2, 0, 0, 0)}, {of(1, 100, 5, 5), 5, of(2, 105, 5, 5)}, {of(3, 0, greatest, least), 7, of(4, 7, 7, 7)},
	} {
		if got := tally.Add(r.t, r.v); got != r.want {
			t.Errorf("Add(%v, %d) is %v, want %v", r.t, r.v, got, r.want)
		}
		if got := joinOf(r.t, of(1, r.v, r.v, r.v)); got != r.want {
			t.Errorf("the model says of %v and %d %v", r.t, r.v, got)
		}
	}
}

func TestAddAtEdges(t *testing.T) {
	numbers := edges()
	for _, count := range countEdges() {
		for _, sum := range numbers {
			for _, v := range numbers {
				for _, x := range []api.Tally{of(count, sum, v, v), of(count, sum, sum, v), of(count, sum, v, sum), of(count, v, sum, -sum), of(count, sum, least, greatest), of(count, sum, greatest, least)} {
					if got, want := tally.Add(x, v), joinOf(x, of(1, v, v, v)); got != want {
						t.Fatalf("Add(%v, %d) is %v, want %v", x, v, got, want)
					}
				}
			}
		}
	}
}

func TestAddAndOfAny(t *testing.T) {
	r := rand.New(rand.NewSource(1))
	for range 100000 {
		x, v, values := anyTally(r), anyNumber(r), anyValues(r)
		if got, want := tally.Add(x, v), joinOf(x, of(1, v, v, v)); got != want {
			t.Fatalf("Add(%v, %d) is %v, want %v", x, v, got, want)
		}
		if got, want := tally.Of(values...), tallyOf(values...); got != want {
			t.Fatalf("Of(%v) is %v, want %v", values, got, want)
		}
	}
}

// A list is neither changed nor kept, the room behind it included.
func TestOfLeavesItsList(t *testing.T) {
	room := []int64{4, -2, 9, 77, 78}
	was := slices.Clone(room)
	one := tally.Of(room[:3]...)
	if !slices.Equal(room, was) {
		t.Fatalf("the list and what lies behind it is %v", room)
	}
	room[0] = 1000
	if one != of(3, 11, -2, 9) {
		t.Fatalf("the answer has turned to %v", one)
	}
}

func TestOfManyValues(t *testing.T) {
	values := make([]int64, 1<<20)
	for i := range values {
		values[i] = int64(i) - 1<<19
	}
	if got := tally.Of(values...); got != of(1<<20, -1<<19, -1<<19, 1<<19-1) {
		t.Fatalf("Of is %v", got)
	}
}
