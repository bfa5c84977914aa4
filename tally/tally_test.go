package tally_test

import (
	"math"
	"math/big"
	"math/rand"
	"slices"
	"testing"

	"keepsake/api"
	"keepsake/tally"
)

func TestWidth(t *testing.T) {
	for _, r := range []struct {
		t    api.Tally
		want uint64
	}{
		{of(2, 5, -1, 6), 7}, {of(2, 0, least, greatest), math.MaxUint64}, {of(1, 1, 5, 4), math.MaxUint64},

		{of(0, 0, 0, 0), 0}, {of(1, 5, 5, 5), 0}, {of(1, least, least, least), 0}, {of(2, 0, 0, greatest), 1<<63 - 1}, {of(2, 0, least, 0), 1 << 63}, {of(2, 0, -1, greatest), 1 << 63}, {of(2, 0, -2, greatest), 1<<63 + 1}, {of(2, 0, least, 1), 1<<63 + 1},
		{of(2, 0, greatest, least), 1}, {of(2, 0, 0, least), 1 << 63}, {of(1, 1, 9, 2), 1<<64 - 7},

		// The Count and the Sum are not looked at.
		{of(0, 9, 1, 9), 8}, {of(-1, 9, 1, 9), 8}, {of(least, least, 1, 9), 8}, {of(greatest, 0, 1, 9), 8},
	} {
		if got := tally.Width(r.t); got != r.want {
			t.Errorf("Width(%v) is %d, want %d", r.t, got, r.want)
		}
	}
	for _, low := range edges() {
		for _, high := range edges() {
			want := new(big.Int).Sub(whole(high), whole(low))
			want.Mod(want, round)
			if got := tally.Width(of(2, 0, low, high)); got != want.Uint64() {
				t.Fatalf("Width of %d to %d is %d, want %v", low, high, got, want)
			}
		}
	}
}

func TestMean(t *testing.T) {
	for _, r := range []struct {
		t    api.Tally
		want float64
		ok   bool
	}{
		{of(3, 5, -1, 3), 5.0 / 3.0, true}, {of(0, 0, 0, 0), 0, false},

		{of(1, 7, 7, 7), 7, true}, {of(2, -7, -4, -3), -3.5, true}, {of(4, 1, 0, 1), 0.25, true}, {of(3, -1, -1, 0), -1.0 / 3.0, true}, {of(10, 1, 0, 1), 0.1, true},
		{of(1, 0, 0, 0), 0, true}, {of(3, 0, -5, 5), 0, true}, {of(api.MaxCount, 0, -5, 5), 0, true},
		{of(api.MaxCount, 1, 0, 1), 0x1p-53, true}, {of(api.MaxCount, -api.MaxCount, -1, -1), -1, true}, {of(1, greatest, greatest, greatest), 0x1p63, true}, {of(1, least, least, least), -0x1p63, true}, {of(api.MaxCount, least, least, greatest), -1024, true},

		// Numbers of more than 53 bits are rounded first, each by itself.
		{of(1, 1<<53+1, 0, 0), 0x1p53, true}, {of(1, 1<<53+3, 0, 0), 0x1p53 + 4, true}, {of(3, 1<<53+1, 0, 0), 0x1p53 / 3, true}, {of(1<<53+1, 1<<53+1, 1, 1), 1, true}, {of(1<<53+1, 1<<53, 1, 1), 1, true}, {of(greatest, greatest, 1, 1), 1, true}, {of(greatest, 1<<53+1, 1, 1), 0x1p-10, true},

		// Empty ones, whatever else stands in them; tallies that can't be.
		{of(0, 9, 9, 9), 0, false}, {of(0, -9, -9, -9), 0, false}, {of(-1, 9, 9, 9), 0, false}, {of(-3, 0, 0, 0), 0, false}, {of(least, least, 0, 0), 0, false}, {of(2, 8, 9, 1), 4, true}, {of(2, 100, 0, 0), 50, true},
	} {
		got, ok := tally.Mean(r.t)
		if got != r.want || ok != r.ok || got == 0 && math.Signbit(got) {
			t.Errorf("Mean(%v) is %v, %t, want %v, %t", r.t, got, ok, r.want, r.ok)
		}
	}
}

// rounded is a whole number as the real number beside it, by the library's own rounding (to the nearest, of two such to the even one).
func rounded(n int64) *big.Float {
	return new(big.Float).SetPrec(53).SetMode(big.ToNearestEven).SetInt64(n)
}

// means holds Mean against two conversions and one division, each rounded by itself.
func means(t *testing.T, x api.Tally) {
	t.Helper()
	got, ok := tally.Mean(x)
	if x.Count < 1 {
		if got != 0 || math.Signbit(got) || ok {
			t.Fatalf("Mean(%v) is %v, %t", x, got, ok)
		}
		return
	}
	want, _ := new(big.Float).SetPrec(53).Quo(rounded(x.Sum), rounded(x.Count)).Float64()
	if math.Float64bits(got) != math.Float64bits(want) || !ok {
		t.Fatalf("Mean(%v) is %v, %t, want %v", x, got, ok, want)
	}
}

func TestMeanOfAny(t *testing.T) {
	for _, count := range countEdges() {
		for _, sum := range edges() {
			means(t, of(count, sum, 0, 0))
		}
	}
	r := rand.New(rand.NewSource(7))
	for range 100000 {
		means(t, anyTally(r))
	}
}

func TestCompare(t *testing.T) {
	for _, r := range []struct {
		a, b api.Tally
		want int
	}{
		{of(1, 5, 5, 5), of(1, 6, 5, 5), -1}, {of(0, 0, 0, 0), of(0, 0, 0, 0), 0},

		{of(1, 9, 9, 9), of(2, 0, 0, 0), -1}, {of(2, 5, 9, 9), of(2, 6, 0, 0), -1}, {of(2, 5, 1, 9), of(2, 5, 2, 0), -1}, {of(2, 5, 1, 8), of(2, 5, 1, 9), -1}, {of(2, 5, 1, 9), of(2, 5, 1, 9), 0},
		{of(-1, 0, 0, 0), of(0, 0, 0, 0), -1}, {of(0, -1, 0, 0), of(0, 0, 0, 0), -1}, {of(0, 0, -1, 0), of(0, 0, 0, 0), -1}, {of(0, 0, 0, -1), of(0, 0, 0, 0), -1},

		// Numbers further apart than numbers go, and tallies that can't be, go as all others.
		{of(least, 0, 0, 0), of(greatest, 0, 0, 0), -1}, {of(1, least, 0, 0), of(1, greatest, 0, 0), -1}, {of(1, 0, least, 0), of(1, 0, greatest, 0), -1}, {of(1, 0, 0, least), of(1, 0, 0, greatest), -1}, {of(0, 7, 7, 7), of(0, 9, 9, 9), -1}, {of(3, 1, 5, 4), of(3, 1, 5, 5), -1},
	} {
		if got := tally.Compare(r.a, r.b); got != r.want {
			t.Errorf("Compare(%v, %v) is %d, want %d", r.a, r.b, got, r.want)
		}
		if got := tally.Compare(r.b, r.a); got != -r.want {
			t.Errorf("Compare(%v, %v) is %d, want %d", r.b, r.a, got, -r.want)
		}
	}
}

// All tallies out of five numbers, in the order in which loops make them.
func TestCompareIsAnOrder(t *testing.T) {
	var all []api.Tally
	numbers := []int64{least, -1, 0, 1, greatest}
	for _, count := range numbers {
		for _, sum := range numbers {
			for _, low := range numbers {
				for _, high := range numbers {
					all = append(all, of(count, sum, low, high))
				}
			}
		}
	}
	for i, a := range all {
		for k, b := range all {
			want := 0
			if i < k {
				want = -1
			} else if i > k {
				want = 1
			}
			if got := tally.Compare(a, b); got != want {
				t.Fatalf("Compare(%v, %v) is %d, want %d", a, b, got, want)
			}
		}
	}
	mixed := slices.Clone(all)
	rand.New(rand.NewSource(8)).Shuffle(len(mixed), func(i, k int) { mixed[i], mixed[k] = mixed[k], mixed[i] })
	slices.SortFunc(mixed, tally.Compare)
	if !slices.Equal(mixed, all) {
		t.Fatal("what is sorted by Compare lies otherwise")
	}
}
