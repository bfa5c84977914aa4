package tally_test

import (
	"math"
	"math/big"
	"math/rand"

	"keepsake/api"
)

// What the chapter says, reckoned without bound and looked for plainly.

const (
	least    = math.MinInt64
	greatest = math.MaxInt64
)

var round = new(big.Int).Lsh(big.NewInt(1), 64)

func of(count, sum, low, high int64) api.Tally {
	return api.Tally{Count: count, Sum: sum, Min: low, Max: high}
}

func whole(n int64) *big.Int { return big.NewInt(n) }

// wrapped is a whole number gone round into an int64.
func wrapped(n *big.Int) int64 {
	return int64(new(big.Int).Mod(n, round).Uint64())
}

// joinOf puts together what is not empty, field by field as the chapter does.
func joinOf(l ...api.Tally) api.Tally {
	count, sum := whole(0), whole(0)
	var lows, highs []int64
	for _, t := range l {
		if t.Count < 1 {
			continue
		}
		count.Add(count, whole(t.Count))
		sum.Add(sum, whole(t.Sum))
		lows, highs = append(lows, t.Min), append(highs, t.Max)
	}
	if len(lows) == 0 {
		return api.Tally{}
	}
	if count.Cmp(whole(api.MaxCount)) > 0 {
		count = whole(api.MaxCount)
	}
	low, high := lows[0], highs[0]
	for i := range lows {
		if lows[i] < low {
			low = lows[i]
		}
		if highs[i] > high {
			high = highs[i]
		}
	}
	return of(count.Int64(), wrapped(sum), low, high)
}

// tallyOf is the tally of values: joined out of one for each.
func tallyOf(values ...int64) api.Tally {
	var l []api.Tally
	for _, v := range values {
		l = append(l, of(1, v, v, v))
	}
	return joinOf(l...)
}

// canOf says which tallies can be, line by line as the chapter does.
func canOf(t api.Tally) bool {
	switch {
	case t.Count < 0 || t.Count > api.MaxCount:
		return false
	case t.Count == 0:
		return t.Sum == 0 && t.Min == 0 && t.Max == 0
	case t.Min > t.Max:
		return false
	case t.Count == 1:
		return t.Min == t.Sum && t.Max == t.Sum
	case t.Count < api.MaxCount:
		return sumOf(t, whole(t.Count)) != nil
	case t.Min == t.Max:
		return timesOf(t) != nil
	}
	return true
}

// sumOf is the least sum of so many values that goes round to the tally's, each from Min to Max, one of them Min, another one Max; nil, if there is none.
func sumOf(t api.Tally, count *big.Int) *big.Int {
	others := new(big.Int).Sub(count, whole(2))
	ends := new(big.Int).Add(whole(t.Min), whole(t.Max))
	low := new(big.Int).Mul(others, whole(t.Min))
	high := new(big.Int).Mul(others, whole(t.Max))
	low.Add(low, ends)
	high.Add(high, ends)
	far := new(big.Int).Sub(whole(t.Sum), low)
	far.Mod(far, round) // never negative
	if far.Add(far, low).Cmp(high) > 0 {
		return nil
	}
	return far
}

// timesOf is how many values, MaxCount or more, all of them Min, have the tally's sum; nil, if no number of them has.
func timesOf(t api.Tally) *big.Int {
	n, sum := new(big.Int).Mod(whole(t.Min), round), new(big.Int).Mod(whole(t.Sum), round)
	common := new(big.Int).GCD(nil, nil, n, round)
	if new(big.Int).Mod(sum, common).Sign() != 0 {
		return nil
	}
	less := new(big.Int).Div(round, common)
	times := whole(0)
	if less.Cmp(whole(1)) > 0 {
		times.ModInverse(n.Div(n, common), less)
		times.Mul(times, sum.Div(sum, common))
		times.Mod(times, less)
	}
	for times.Cmp(whole(api.MaxCount)) < 0 {
		times.Add(times, less.Lsh(less, 1))
	}
	return times
}

// valuesOf are values with that tally, of which it is known that it can be and whose Count is small.
func valuesOf(t api.Tally) []int64 {
	if t.Count < 2 {
		return []int64{t.Min}[:t.Count]
	}
	far := sumOf(t, whole(t.Count))
	far.Sub(far, whole(t.Min)).Sub(far, whole(t.Max))
	far.Sub(far, new(big.Int).Mul(whole(t.Count-2), whole(t.Min)))
	width := new(big.Int).Sub(whole(t.Max), whole(t.Min))
	values := []int64{t.Min, t.Max}
	for range t.Count - 2 {
		step := width
		if far.Cmp(width) < 0 {
			step = far
		}
		values = append(values, new(big.Int).Add(whole(t.Min), step).Int64())
		far = new(big.Int).Sub(far, step)
	}
	return values
}

// edges are numbers at and beside those where something may go round, or turns.
func edges() []int64 {
	var l []int64
	for _, n := range []int64{least + 1, -1 << 62, -api.MaxCount, 0, api.MaxCount, 1 << 62, greatest - 1} {
		l = append(l, n-1, n, n+1)
	}
	return l
}

// countEdges are Counts: wrong ones, the ones that the chapter names, and those beside them.
func countEdges() []int64 {
	return []int64{least, -api.MaxCount, -1, 0, 1, 2, 3, 4, 5, 1 << 20, 1<<52 + 1, api.MaxCount - 2, api.MaxCount - 1, api.MaxCount, api.MaxCount + 1, greatest - 1, greatest}
}

// anyNumber is a number of any size, as often near an edge as not.
func anyNumber(r *rand.Rand) int64 {
	if r.Intn(2) == 0 {
		l := edges()
		return l[r.Intn(len(l))]
	}
	return int64(r.Uint64()) >> r.Intn(64)
}

// anyTally is any four numbers, wrong ones too.
func anyTally(r *rand.Rand) api.Tally {
	count := anyNumber(r)
	if r.Intn(2) == 0 {
		l := countEdges()
		count = l[r.Intn(len(l))]
	}
	return of(count, anyNumber(r), anyNumber(r), anyNumber(r))
}

// anyValues are some values, or none.
func anyValues(r *rand.Rand) []int64 {
	l := make([]int64, r.Intn(9))
	for i := range l {
		l[i] = anyNumber(r)
	}
	return l
}

// anyThatCan is a tally that can be: of a few values, or of as many as there may be.
func anyThatCan(r *rand.Rand) api.Tally {
	if r.Intn(2) == 0 {
		return tallyOf(anyValues(r)...)
	}
	a, b := anyNumber(r), anyNumber(r)
	count := []int64{2, 3, 1 << 30, 1 << 52, api.MaxCount - 2, api.MaxCount - 1, api.MaxCount}[r.Intn(7)]
	// Some of the values are the one number, the others the other one.
	some := whole(1 + r.Int63n(count-1))
	sum := new(big.Int).Mul(some, whole(a))
	some.Sub(whole(count), some)
	sum.Add(sum, some.Mul(some, whole(b)))
	return of(count, wrapped(sum), min(a, b), max(a, b))
}
