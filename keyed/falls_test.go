package keyed_test

import (
	"math/rand"
	"slices"
	"testing"

	"keepsake/api"
	"keepsake/keyed"
	"keepsake/window"
)

// wantFalls holds Falls, and the model, against what is wanted.
func wantFalls(t *testing.T, c api.Config, k api.KeyState, at int64, want []api.Span) {
	t.Helper()
	was := slices.Clone(k.Windows)
	l, e := keyed.Falls(c, k, at)
	if e != api.OK || !slices.Equal(l, want) || !slices.Equal(k.Windows, was) {
		t.Errorf("Falls(%v, %v, %d) is %v, %d, want %v", c, k, at, l, e, want)
	}
	if l := fallsOf(c, k, at); !slices.Equal(l, want) {
		t.Errorf("the model says of Falls(%v, %v, %d) %v", c, k, at, l)
	}
}

// The windows of other kinds than Session hang on the time alone.
func TestFalls(t *testing.T) {
	T, S := tumbling(5, 0, false), sliding(5, 0, false)
	off, steps := T, S
	off.Offset = 3
	steps.Slide, steps.Offset = 4, 1
	for _, k := range []api.KeyState{key(0), key(3), key(0, one(0, 10, 1, 3)), key(0, one(0, 10, 1, 3), one(3, 99, 1, 3))} {
		wantFalls(t, T, k, 0, spans(0, 10))
		wantFalls(t, T, k, 9, spans(0, 10))
		wantFalls(t, T, k, 10, spans(10, 20))
		wantFalls(t, T, k, -1, spans(-10, 0))
		wantFalls(t, off, k, 12, spans(3, 13))
		wantFalls(t, off, k, 13, spans(13, 23))
		wantFalls(t, off, k, -7, spans(-7, 3))
		wantFalls(t, S, k, 7, spans(0, 10, 5, 15))
		wantFalls(t, S, k, -1, spans(-10, 0, -5, 5))
		wantFalls(t, steps, k, 9, spans(1, 11, 5, 15, 9, 19))
		wantFalls(t, steps, k, 8, spans(1, 11, 5, 15))
		wantFalls(t, T, k, api.MaxTime, spans(api.MaxTime-4, api.MaxTime+6))
		wantFalls(t, T, k, api.MinTime, spans(api.MinTime-6, api.MinTime+4))
	}
}

// A session is joined with those of the key that it overlaps, not with those that it touches.
func TestFallsIntoSessions(t *testing.T) {
	c := session(0, 0, false)
	row := key(0, one(0, 5, 1, 0), one(5, 8, 1, 5), one(20, 25, 1, 20), one(30, 60, 1, 30))
	for _, r := range []struct{ at, start, end int64 }{
		{-6, -6, -1}, {-5, -5, 0}, {-4, -4, 5}, {0, 0, 5}, {1, 0, 8}, {4, 0, 9}, {5, 5, 10}, {7, 5, 12},
		{8, 8, 13}, {15, 15, 20}, {16, 16, 25}, {20, 20, 25}, {24, 20, 29}, {25, 25, 30}, {26, 26, 60}, {40, 30, 60}, {55, 30, 60}, {56, 30, 61}, {59, 30, 64}, {60, 60, 65},
	} {
		wantFalls(t, c, row, r.at, spans(r.start, r.end))
		wantFalls(t, c, key(0), r.at, spans(r.at, r.at+5))
	}
	c.Gap = 20
	wantFalls(t, c, row, 3, spans(0, 25))
	wantFalls(t, c, row, 11, spans(11, 60))
	wantFalls(t, c, row, -20, spans(-20, 0))
	wantFalls(t, c, row, -12, spans(-12, 8))
	c.Gap = 1
	wantFalls(t, c, row, 4, spans(0, 5))
	wantFalls(t, c, row, 8, spans(8, 9))

	// At the ends of all that may be.
	c.Gap = api.MaxSpan
	wantFalls(t, c, key(0), api.MinTime, spans(api.MinTime, api.MinTime+api.MaxSpan))
	wantFalls(t, c, key(0), api.MaxTime, spans(api.MaxTime, highest))
	wide := key(0, one(lowest, highest, 1, 0))
	wantFalls(t, c, wide, api.MinTime, spans(lowest, highest))
	wantFalls(t, c, wide, api.MaxTime, spans(lowest, highest))
	wantFalls(t, c, key(0, one(lowest, api.MinTime, 1, 0)), api.MinTime, spans(api.MinTime, api.MinTime+api.MaxSpan))
	wantFalls(t, c, key(0, one(lowest, api.MinTime+1, 1, 0)), api.MinTime, spans(lowest, api.MinTime+api.MaxSpan))
	wantFalls(t, c, key(0, one(highest-1, highest, 1, 0)), api.MaxTime, spans(api.MaxTime, highest))
}

func TestFallsOfAny(t *testing.T) {
	r := rand.New(rand.NewSource(2))
	for i := range 60000 {
		wide := i%2 == 0
		c := anyJob(r, wide)
		k, at := anyState(r, c, wide), anyTime(r, wide)
		wantFalls(t, c, k, at, fallsOf(c, k, at))
		if c.Kind != api.Session {
			l, _ := window.Falls(c, at)
			wantFalls(t, c, k, at, l)
		}
		if t.Failed() {
			return
		}
	}
}
