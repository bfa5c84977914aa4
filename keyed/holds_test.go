package keyed_test

import (
	"math/rand"
	"slices"
	"testing"

	"keepsake/api"
	"keepsake/keyed"
)

// wantHolds holds Holds, and the model, against what is wanted.
func wantHolds(t *testing.T, c api.Config, k api.KeyState, w, hold int64, found bool, want api.Errno) {
	t.Helper()
	was := slices.Clone(k.Windows)
	if h, ok, e := keyed.Holds(c, k, w); h != hold || ok != found || e != want || !slices.Equal(k.Windows, was) {
		t.Errorf("Holds(%v, %v, %d) is %d, %t, %d, want %d, %t, %d", c, k, w, h, ok, e, hold, found, want)
	}
	if h, ok, e := holdsOf(c, k, w); h != hold || ok != found || e != want {
		t.Errorf("the model says of Holds(%v, %v, %d) %d, %t, %d", c, k, w, h, ok, e)
	}
}

func TestHolds(t *testing.T) {
	three := key(0, one(0, 10, 1, 3), one(10, 20, 1, 1), one(20, 30, 1, 2))
	for _, c := range kinds() {
		wantHolds(t, c, key(0), 0, 0, false, api.OK)
		wantHolds(t, c, key(7), 0, 0, false, api.OK)
		// The least one of all, wherever it stands; what is due counts no more, from just its End on.
		for _, r := range []struct {
			w, hold int64
			found   bool
		}{
			{api.MinTime, 1, true}, {0, 1, true}, {9, 1, true}, {10, 1, true}, {19, 1, true}, {20, 2, true}, {29, 2, true}, {30, 0, false}, {api.MaxTime, 0, false},
		} {
			wantHolds(t, c, three, r.w, r.hold, r.found, api.OK)
		}
		// Whatever number is held back, nought and those beyond all times included.
		for _, n := range edges() {
			wantHolds(t, c, key(0, one(0, 10, 1, n)), 0, n, true, api.OK)
			wantHolds(t, c, key(0, one(0, 10, 1, n), one(10, 20, 1, n)), 10, n, true, api.OK)
			wantHolds(t, c, key(0, one(0, 10, 1, 5), one(10, 20, 1, n)), 0, min(n, 5), true, api.OK)
			wantHolds(t, c, key(0, one(0, 10, 1, n), one(10, 20, 1, 5)), 0, min(n, 5), true, api.OK)
			wantHolds(t, c, key(0, one(0, 10, 1, n), one(10, 20, 1, 5)), 10, 5, true, api.OK)
			wantHolds(t, c, key(0, one(0, 10, 1, n)), 10, 0, false, api.OK)
		}
		// A window that ends above MaxTime is never due.
		wantHolds(t, c, key(0, one(0, api.MaxTime, 1, 3)), api.MaxTime, 0, false, api.OK)
		wantHolds(t, c, key(0, one(0, api.MaxTime+1, 1, 3)), api.MaxTime, 3, true, api.OK)
		wantHolds(t, c, three, api.MaxTime+1, 0, false, api.ErrArg)
		wantHolds(t, c, three, api.MinTime-1, 0, false, api.ErrArg)
		wantHolds(t, c, key(-1), api.MinTime-1, 0, false, api.ErrState)
		wantHolds(t, api.Config{}, key(-1), api.MinTime-1, 0, false, api.ErrJob)
	}
	// Of windows that lie within others, too.
	wantHolds(t, sliding(0, 0, false), key(0, one(0, 100, 1, 50), one(5, 15, 1, 7), one(6, 16, 1, 8)), 15, 8, true, api.OK)
	wantHolds(t, sliding(0, 0, false), key(0, one(0, 100, 1, 50), one(5, 15, 1, 7), one(6, 16, 1, 8)), 16, 50, true, api.OK)
}

func TestHoldsOfAny(t *testing.T) {
	r := rand.New(rand.NewSource(3))
	for i := range 40000 {
		wide := i%2 == 0
		c := anyJob(r, wide)
		k, w := anyState(r, c, wide), anyTime(r, wide)
		h, ok, e := holdsOf(c, k, w)
		wantHolds(t, c, k, w, h, ok, e)
		if t.Failed() {
			return
		}
	}
}
