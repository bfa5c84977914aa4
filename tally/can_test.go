package tally_test

import (
	"math/big"
	"math/rand"
	"testing"

	"keepsake/api"
	"keepsake/tally"
)

func TestCanExamples(t *testing.T) {
	const most = api.MaxCount
	for _, r := range []struct {
		t    api.Tally
		want bool
	}{
		{of(0, 0, 0, 0), true}, {of(0, 1, 0, 0), false}, {of(-1, 0, 0, 0), false}, {of(1, 5, 5, 5), true}, {of(1, 5, 5, 6), false},
		{of(2, 5, 2, 3), true}, {of(2, 6, 2, 3), false}, {of(3, 8, 2, 3), true}, {of(3, 9, 2, 3), false}, {of(3, 6, 2, 3), false},
		{of(3, least, 0, greatest), true}, {of(4, 0, least, greatest), true},
		{of(most, 6, 2, 2), true}, {of(most, 7, 2, 2), false}, {of(most, 7, 2, 3), true}, {of(most+1, 7, 2, 3), false},

		// Count 0, and Counts below it.
		{of(0, 0, 1, 0), false}, {of(0, 0, 0, 1), false}, {of(0, 7, 7, 7), false}, {of(0, 0, -1, 1), false}, {of(0, 0, least, 0), false}, {of(-1, 5, 5, 5), false}, {of(-2, 0, 0, 0), false}, {of(-most, 0, 0, 0), false}, {of(least, 0, 0, 0), false}, {of(least, 0, least, greatest), false},

		// Count 1.
		{of(1, 0, 0, 0), true}, {of(1, 5, 4, 5), false}, {of(1, 5, 4, 6), false}, {of(1, 6, 5, 5), false}, {of(1, 5, 6, 5), false}, {of(1, least, least, least), true}, {of(1, greatest, greatest, greatest), true}, {of(1, -1, least, greatest), false}, {of(1, least, greatest, greatest), false},

		// Count 2: just the one sum.
		{of(2, 4, 2, 3), false}, {of(2, 4, 2, 2), true}, {of(2, 5, 2, 2), false}, {of(2, 5, 3, 2), false}, {of(2, -1, least, greatest), true}, {of(2, 0, least, greatest), false}, {of(2, -2, least, greatest), false}, {of(2, 0, least, least), true}, {of(2, -2, greatest, greatest), true}, {of(2, least, 1, greatest), true}, {of(2, greatest, 1, greatest), false}, {of(2, greatest, least, -1), true},

		// Count 3: the sums of a whole stretch, its ends, and one past each.
		{of(3, 7, 2, 3), true}, {of(3, 6, 2, 2), true}, {of(3, 7, 2, 2), false}, {of(3, 5, 2, 2), false}, {of(3, 14, 2, 9), true}, {of(3, 13, 2, 9), true}, {of(3, 20, 2, 9), true}, {of(3, 21, 2, 9), false}, {of(3, 12, 2, 9), false}, {of(3, 8, 3, 2), false}, {of(3, -12, -9, 3), true}, {of(3, -15, -9, 3), true}, {of(3, -16, -9, 3), false}, {of(3, -3, -9, 3), true}, {of(3, -2, -9, 3), false},
		{of(3, greatest, 0, greatest), true}, {of(3, -2, 0, greatest), true}, {of(3, -1, 0, greatest), false}, {of(3, greatest-1, 0, greatest), false}, {of(3, 0, 0, greatest), false},

		// Where the sums that can be go just short of once round, just once round, and more.
		{of(3, greatest, least, greatest), true}, {of(3, greatest-1, least, greatest), true}, {of(3, 0, least, greatest), true}, {of(3, least, least, greatest), true},
		{of(3, greatest, least, greatest-1), true}, {of(3, greatest-1, least, greatest-1), true}, {of(3, greatest-2, least, greatest-1), false}, {of(3, greatest-3, least, greatest-1), true},
		{of(4, 1, least, greatest), true}, {of(4, greatest, least, -1), true}, {of(4, 5, least, -1), true}, {of(4, -2, least, -1), true}, {of(4, least, 0, greatest), true}, {of(4, greatest-1, 0, greatest), false}, {of(4, greatest-2, 0, greatest), true}, {of(4, greatest, 0, greatest), true},
		{of(5, greatest-1, 0, greatest), true}, {of(1<<62, 0, 0, 1), false},

		// Counts just below MaxCount: the sums go once round at a width of 2^11 or more.
		{of(most-1, 1, 0, 1), true}, {of(most-1, 0, 0, 1), false}, {of(most-1, most-2, 0, 1), true}, {of(most-1, most-1, 0, 1), false}, {of(most-1, -1, 0, 1), false}, {of(most-1, -7, 0, 1<<12), true}, {of(most-1, 0, 0, 1<<12), true}, {of(most-1, 0, least, greatest), true}, {of(most-1, 6, 2, 2), false}, {of(most-1, 2*most-2, 2, 2), true}, {of(most-1, 2*most, 2, 2), false}, {of(most-1, 0, 0, 0), true}, {of(most-1, 1, 0, 0), false}, {of(most-1, 7, 3, 2), false},
		{of(1<<52, 5, 7, 7), false}, {of(1<<52, 7<<52, 7, 7), true}, {of(1<<52, 0, 1<<12, 1<<12), true}, {of(1<<52, 1<<12, 1<<12, 1<<12), false},

		// MaxCount: of one and the same value its multiples, else any sum.
		{of(most, 0, 0, 0), true}, {of(most, 1, 0, 0), false}, {of(most, least, 0, 0), false}, {of(most, 7, 1, 1), true}, {of(most, least, 1, 1), true}, {of(most, 7, 3, 3), true}, {of(most, 7, -3, -3), true}, {of(most, 7, -1, -1), true}, {of(most, 7, -2, -2), false}, {of(most, 6, -2, -2), true}, {of(most, 0, 2, 2), true}, {of(most, 4, 12, 12), true}, {of(most, 6, 12, 12), false}, {of(most, -4, 12, 12), true},
		{of(most, least, least, least), true}, {of(most, 0, least, least), true}, {of(most, 1<<62, least, least), false}, {of(most, greatest, least, least), false}, {of(most, 1<<62, 1<<62, 1<<62), true}, {of(most, least, 1<<62, 1<<62), true}, {of(most, -1<<62, 3<<61, 3<<61), true}, {of(most, 1<<60, 3<<61, 3<<61), false}, {of(most, 5, greatest, greatest), true},
		{of(most, 0, 0, 1), true}, {of(most, least, 0, 1), true}, {of(most, -1, 2, 4), true}, {of(most, 7, least, greatest), true}, {of(most, 7, 3, 2), false}, {of(most, 6, greatest, least), false},

		// Past MaxCount.
		{of(most+1, 0, 0, 0), false}, {of(most+1, 2*most+2, 2, 2), false}, {of(greatest, 0, 0, 0), false}, {of(greatest, 7, 2, 3), false},
	} {
		if tally.Can(r.t) != r.want {
			t.Errorf("Can(%v) is %t", r.t, !r.want)
		}
		if canOf(r.t) != r.want {
			t.Errorf("the model says of %v %t", r.t, !r.want)
		}
	}
}

// gather puts the tallies of all lists of at most so many of the numbers into the map.
func gather(found map[api.Tally]int, numbers, values []int64, most int) {
	found[tallyOf(values...)]++
	if len(values) < most {
		for _, n := range numbers {
			gather(found, numbers, append(values[:len(values):len(values)], n), most)
		}
	}
}

// Of all small tallies just those can be that lists of values have.
func TestCanIsWhatListsHave(t *testing.T) {
	found := map[api.Tally]int{}
	gather(found, []int64{-2, -1, 0, 1, 2, 3}, nil, 5)
	for count := int64(-1); count <= 5; count++ {
		for sum := int64(-20); sum <= 20; sum++ {
			for low := int64(-2); low <= 3; low++ {
				for high := int64(-2); high <= 3; high++ {
					x := of(count, sum, low, high)
					if want := found[x] > 0; tally.Can(x) != want {
						t.Fatalf("Can(%v) is %t", x, !want)
					}
				}
			}
		}
	}
}

func TestCanAtEdges(t *testing.T) {
	numbers := edges()
	for _, count := range countEdges() {
		for _, sum := range numbers {
			for _, low := range numbers {
				for _, high := range numbers {
					x := of(count, sum, low, high)
					if want := canOf(x); tally.Can(x) != want {
						t.Fatalf("Can(%v) is %t", x, !want)
					}
				}
			}
		}
	}
}

// Sums at both ends of what can be, and one past each.
func TestCanAtTheEndsOfTheSums(t *testing.T) {
	r := rand.New(rand.NewSource(3))
	for range 50000 {
		count := 2 + r.Int63n(1<<(1+r.Intn(52)))
		a, b := anyNumber(r), anyNumber(r)
		if r.Intn(2) == 0 {
			b = a + r.Int63n(1<<12)
		}
		low, high := min(a, b), max(a, b)
		others := whole(count - 2)
		ends := new(big.Int).Add(whole(low), whole(high))
		for _, n := range []int64{low, high} {
			end := new(big.Int).Mul(others, whole(n))
			end.Add(end, ends)
			for d := int64(-1); d <= 1; d++ {
				x := of(count, wrapped(end)+d, low, high)
				if want := canOf(x); tally.Can(x) != want {
					t.Fatalf("Can(%v) is %t", x, !want)
				}
				if d == 0 && !tally.Can(x) {
					t.Fatalf("Can(%v) is false at an end", x)
				}
			}
		}
	}
}

// Of what can be there are values, which have that tally.
func TestCanHasValues(t *testing.T) {
	r := rand.New(rand.NewSource(4))
	could := 0
	for range 100000 {
		x := of(r.Int63n(8), anyNumber(r), anyNumber(r), anyNumber(r))
		if x.Min > x.Max {
			x.Min, x.Max = x.Max, x.Min
		}
		if !tally.Can(x) {
			continue
		}
		could++
		values := valuesOf(x)
		if got := tallyOf(values...); got != x || tally.Of(values...) != x {
			t.Fatalf("Can(%v), but %v have %v", x, values, got)
		}
	}
	if could < 1000 {
		t.Fatalf("only %d of them can be", could)
	}
}

// Of MaxCount there are so many values, or more, which have that sum.
func TestCanOfAsManyOrMore(t *testing.T) {
	r := rand.New(rand.NewSource(5))
	for range 50000 {
		n, sum := anyNumber(r), anyNumber(r)
		if r.Intn(2) == 0 {
			n, sum = n<<r.Intn(64), sum<<r.Intn(64)
		}
		x := of(api.MaxCount, sum, n, n)
		times := timesOf(x)
		if tally.Can(x) != (times != nil) {
			t.Fatalf("Can(%v) is %t", x, times == nil)
		}
		if times != nil && (times.Cmp(whole(api.MaxCount)) < 0 || wrapped(new(big.Int).Mul(times, whole(n))) != sum) {
			t.Fatalf("%v times %d is not %d", times, n, sum)
		}
		wide := of(api.MaxCount, sum, min(n, sum), max(n, sum))
		many := new(big.Int).Add(round, whole(api.MaxCount))
		if wide.Min < wide.Max && (!tally.Can(wide) || sumOf(wide, many) == nil) {
			t.Fatalf("Can(%v) is false, or %v values do not have its sum", wide, many)
		}
	}
}

func TestCanOfAny(t *testing.T) {
	r := rand.New(rand.NewSource(6))
	for range 200000 {
		x := anyTally(r)
		if want := canOf(x); tally.Can(x) != want {
			t.Fatalf("Can(%v) is %t", x, !want)
		}
	}
}

func FuzzCan(f *testing.F) {
	f.Add(int64(3), int64(8), int64(2), int64(3))
	f.Add(int64(4), int64(0), int64(least), int64(greatest))
	f.Add(int64(api.MaxCount), int64(7), int64(2), int64(2))
	f.Add(int64(api.MaxCount-1), int64(-1), int64(0), int64(1))
	f.Fuzz(func(t *testing.T, count, sum, low, high int64) {
		x := of(count, sum, low, high)
		if want := canOf(x); tally.Can(x) != want {
			t.Fatalf("Can(%v) is %t", x, !want)
		}
	})
}
