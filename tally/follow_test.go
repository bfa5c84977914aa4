package tally_test

import (
	"math/big"
	"math/rand"
	"testing"

	"keepsake/api"
	"keepsake/tally"
)

// follows looks whether what P8.6 says of any three tallies is so: any order, any brackets, empty ones beside.
func follows(t *testing.T, a, b, c api.Tally) {
	t.Helper()
	whole := tally.Join(a, b, c)
	for i, got := range []api.Tally{
		tally.Join(a, c, b), tally.Join(b, a, c), tally.Join(b, c, a), tally.Join(c, a, b), tally.Join(c, b, a),
		tally.Join(tally.Join(a, b), c), tally.Join(a, tally.Join(b, c)), tally.Join(tally.Join(a, c), b), tally.Join(tally.Join(a), tally.Join(), tally.Join(b), tally.Join(c)),
	} {
		if got != whole {
			t.Fatalf("%v, %v, %v are together %v, or, by way %d, %v", a, b, c, whole, i, got)
		}
	}
	for _, x := range []api.Tally{a, b, c} {
		for _, empty := range []api.Tally{{}, of(0, 9, -9, 99), of(-1, 1, 1, 1), of(least, greatest, least, greatest)} {
			if x.Count >= 1 && x.Count <= api.MaxCount && (tally.Join(x, empty) != x || tally.Join(empty, x) != x) {
				t.Fatalf("%v with %v beside it is %v or %v", x, empty, tally.Join(x, empty), tally.Join(empty, x))
			}
		}
	}
}

func TestJoinInAnyOrder(t *testing.T) {
	for _, a := range countEdges() {
		for _, b := range countEdges() {
			for _, c := range countEdges() {
				follows(t, of(a, greatest, 3, 5), of(b, greatest, -2, 9), of(c, least, 7, 4))
			}
		}
	}
	r := rand.New(rand.NewSource(9))
	for range 50000 {
		follows(t, anyTally(r), anyTally(r), anyTally(r))
	}
}

func TestListsCutInTwo(t *testing.T) {
	r := rand.New(rand.NewSource(10))
	for range 20000 {
		values := anyValues(r)
		all := tally.Of(values...)
		for i := range len(values) + 1 {
			if got := tally.Join(tally.Of(values[:i]...), tally.Of(values[i:]...)); got != all {
				t.Fatalf("%v cut at %d is %v, whole %v", values, i, got, all)
			}
		}
	}
}

func TestWhatCanBeStaysSo(t *testing.T) {
	r := rand.New(rand.NewSource(11))
	for range 100000 {
		a, b, v, values := anyThatCan(r), anyThatCan(r), anyNumber(r), anyValues(r)
		if !tally.Can(a) || !tally.Can(b) || !tally.Can(tally.Of(values...)) {
			t.Fatalf("%v, %v or the tally of %v can't be", a, b, values)
		}
		if got := tally.Add(a, v); !tally.Can(got) {
			t.Fatalf("Add(%v, %d) is %v, which can't be", a, v, got)
		}
		if got := tally.Join(a, b); !tally.Can(got) {
			t.Fatalf("Join(%v, %v) is %v, which can't be", a, b, got)
		}
		if got := tally.Join(a, b, a); !tally.Can(got) {
			t.Fatalf("Join(%v, %v, %v) is %v, which can't be", a, b, a, got)
		}
	}
}

// One and the same value past MaxCount: the Count stays, the sum goes on.
func TestWhatCanBeStaysSoPastMaxCount(t *testing.T) {
	for _, n := range append(edges(), 6, 12, 1<<20, 3<<40) {
		x := of(api.MaxCount-2, n*(api.MaxCount-2), n, n)
		for i := range int64(6) {
			want := of(min(api.MaxCount-2+i, api.MaxCount), n*(api.MaxCount-2+i), n, n)
			if x != want || !tally.Can(x) {
				t.Fatalf("%d values %d: %v, want %v; Can is %t", api.MaxCount-2+i, n, x, want, tally.Can(x))
			}
			x = tally.Add(x, n)
		}
	}
}

// Where the sum does not run over and its size is at most 2^53, the mean lies from the least to the greatest value.
func TestMeanLiesBetween(t *testing.T) {
	r := rand.New(rand.NewSource(12))
	held := 0
	for range 200000 {
		values := anyValues(r)
		if len(values) > 0 && r.Intn(2) == 0 {
			values[0] = int64(r.Uint64()) >> 20
			for i := range values[1:] {
				values[i+1] = values[0] + r.Int63n(3) - 1
			}
		}
		sum := whole(0)
		for _, v := range values {
			sum.Add(sum, whole(v))
		}
		if len(values) == 0 || new(big.Int).Abs(sum).Cmp(whole(1<<53)) > 0 {
			continue
		}
		held++
		x := tally.Of(values...)
		mean, ok := tally.Mean(x)
		exact := new(big.Float).SetFloat64(mean)
		if !ok || exact.Cmp(new(big.Float).SetInt64(x.Min)) < 0 || exact.Cmp(new(big.Float).SetInt64(x.Max)) > 0 {
			t.Fatalf("Mean(%v) is %v, %t, beside its values", x, mean, ok)
		}
	}
	if held < 10000 {
		t.Fatalf("only %d lists were looked at", held)
	}
}

// Answers hang on what is handed in alone.
func TestAnswersStay(t *testing.T) {
	r := rand.New(rand.NewSource(13))
	for range 1000 {
		a, b := anyTally(r), anyTally(r)
		one, two := tally.Join(a, b), tally.Can(a)
		tally.Add(b, 7)
		tally.Of(1, 2, 3)
		if tally.Join(a, b) != one || tally.Can(a) != two {
			t.Fatalf("%v and %v are answered otherwise the second time", a, b)
		}
	}
}
