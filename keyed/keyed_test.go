package keyed_test

import (
	"slices"
	"testing"

	"keepsake/api"
	"keepsake/keyed"
)

// The chapter's table 'Examples', line by line.
func TestExamples(t *testing.T) {
	T, S := tumbling(5, 0, false), session(0, 0, false)
	a := key(0, one(0, 10, 7, 3))
	b := key(0, win(0, 10, 2, 5, -2, 7, 2, 0, 3))
	c := key(0, win(0, 10, 2, 5, -2, 7, 0, 1, 3))
	d := key(0, win(0, 10, 3, 6, -2, 7, 0, 2, 3))
	wantEvent(t, T, key(0), 0, 3, 7, answer{k: a})
	wantEvent(t, T, a, 4, 1, -2, answer{k: b})
	wantAdvance(t, T, b, 4, 12, answer{k: c, panes: panes(pane(api.OnTime, 0, 10, 0, 2, 5, -2, 7))})
	wantEvent(t, T, c, 12, 5, 1, answer{k: d, panes: panes(pane(api.Late, 0, 10, 1, 3, 6, -2, 7))})
	wantAdvance(t, T, c, 12, 15, answer{k: key(0)})
	wantEvent(t, T, key(0), 15, 5, 1, answer{k: key(1), dropped: true})
	wantEvent(t, tumbling(5, 2, false), a, 4, 1, -2, answer{k: key(0, win(0, 10, 2, 5, -2, 7, 0, 1, 3)), panes: panes(pane(api.Early, 0, 10, 0, 2, 5, -2, 7))})

	wantEvent(t, S, key(0), 0, 3, 1, answer{k: key(0, one(3, 8, 1, 3))})
	wantEvent(t, S, key(0, one(3, 8, 1, 3)), 0, 9, 2, answer{k: key(0, one(3, 8, 1, 3), one(9, 14, 2, 9))})
	wantEvent(t, S, key(0, one(3, 8, 1, 3), one(9, 14, 2, 9)), 0, 6, 4, answer{k: key(0, win(3, 14, 3, 7, 1, 4, 3, 0, 3))})

	wantEvent(t, T, a, api.MinTime-1, 3, 1, answer{e: api.ErrArg})
	wantEvent(t, T, a, 0, api.MaxTime+1, 1, answer{e: api.ErrItem})
	wantAdvance(t, T, a, 5, 4, answer{e: api.ErrArg})
	wantEvent(t, api.Config{}, a, 0, 3, 1, answer{e: api.ErrJob})

	wantHolds(t, T, b, 4, 3, true, api.OK)
	wantHolds(t, T, b, 10, 0, false, api.OK)
}

// step is an event (a time and a value at a watermark), or a rise of the watermark to a time, with the panes that are told.
type step struct {
	rise    bool
	t, v    int64
	panes   []api.Pane
	dropped bool
}

// played does steps one behind the other, from no windows and a watermark on, and answers the state.
func played(t *testing.T, c api.Config, w int64, l ...step) api.KeyState {
	t.Helper()
	k := key(0)
	for i, x := range l {
		var a answer
		if x.rise {
			a = advance(t, c, k, w, x.t)
			w = x.t
		} else {
			a = event(t, c, k, w, x.t, x.v)
		}
		if a.e != api.OK || !slices.Equal(a.panes, x.panes) || a.dropped != x.dropped {
			t.Errorf("%v: the step %d, %v, tells %v, %t, %d", c, i, x, a.panes, a.dropped, a.e)
		}
		k = a.k
	}
	return k
}

func comes(at, v int64, l ...api.Pane) step { return step{t: at, v: v, panes: l} }
func rises(to int64, l ...api.Pane) step    { return step{rise: true, t: to, panes: l} }
func drops(at, v int64) step                { return step{t: at, v: v, dropped: true} }

func wantState(t *testing.T, got, want api.KeyState) {
	t.Helper()
	if !sameState(got, want) {
		t.Errorf("the state is %v, want %v", got, want)
	}
}

// DOC.md's examples of the whole, and chapter 14's, as far as they are of one key.
func TestExamplesOfTheWhole(t *testing.T) {
	T := tumbling(5, 0, false)
	onTime := pane(api.OnTime, 0, 10, 0, 2, 5, -2, 7)
	late := pane(api.Late, 0, 10, 1, 3, 14, -2, 9)
	wantState(t, played(t, T, api.MinTime, comes(3, 7), comes(9, -2), rises(12, onTime), comes(4, 9, late), rises(15), drops(4, 1)), key(1))

	k := played(t, T, api.MinTime, comes(13, 1), rises(7), comes(3, 1), rises(8))
	wantState(t, k, key(0, one(0, 10, 1, 7), one(10, 20, 1, 13)))
	wantHolds(t, T, k, 8, 7, true, api.OK)
	wantAdvance(t, T, k, 8, 10, answer{k: key(0, win(0, 10, 1, 1, 1, 1, 0, 1, 7), one(10, 20, 1, 13)), panes: panes(pane(api.OnTime, 0, 10, 0, 1, 1, 1, 1))})

	wantState(t, played(t, sliding(0, 0, false), api.MinTime, comes(7, 2), comes(-1, 3)),
		key(0, one(-10, 0, 3, -1), one(-5, 5, 3, -1), one(0, 10, 2, 7), one(5, 15, 2, 7)))

	wantState(t, played(t, session(0, 0, false), api.MinTime, comes(3, 1), comes(9, 1), comes(6, 1), comes(14, 1)),
		key(0, win(3, 14, 3, 3, 1, 1, 3, 0, 3), one(14, 19, 1, 14)))

	E := tumbling(5, 2, true)
	early := pane(api.Early, 0, 10, 0, 2, 3, 1, 2)
	wantState(t, played(t, E, api.MinTime, comes(3, 1), comes(3, 2, early), rises(10, pane(api.OnTime, 0, 10, 1, 0, 0, 0, 0))),
		key(0, win(0, 10, 0, 0, 0, 0, 0, 2, 3)))
	wantState(t, played(t, E, api.MinTime, comes(3, 1), comes(3, 2, early), comes(3, 4), rises(10, pane(api.OnTime, 0, 10, 1, 1, 4, 4, 4))),
		key(0, win(0, 10, 0, 0, 0, 0, 0, 2, 3)))
	wantState(t, played(t, E, api.MinTime, comes(3, 1), comes(3, 2, early), rises(10, pane(api.OnTime, 0, 10, 1, 0, 0, 0, 0)), comes(3, 4, pane(api.Late, 0, 10, 2, 1, 4, 4, 4))),
		key(0, win(0, 10, 0, 0, 0, 0, 0, 3, 3)))

	S := session(100, 0, false)
	S.Gap = 10
	wantState(t, played(t, S, api.MinTime, comes(0, 1), rises(12, pane(api.OnTime, 0, 10, 0, 1, 1, 1, 1)), comes(9, 2), rises(30, pane(api.OnTime, 0, 19, 1, 2, 3, 1, 2))),
		key(0, win(0, 19, 2, 3, 1, 2, 0, 2, 12)))
}

func TestEmpty(t *testing.T) {
	for _, r := range []struct {
		k    api.KeyState
		want bool
	}{
		{api.KeyState{}, true},
		{key(0), true},
		{api.KeyState{Key: "k", Windows: []api.Win{}}, true},
		{api.KeyState{Windows: make([]api.Win, 0, 5)}, true},
		{key(1), false},
		{key(most), false},
		{key(0, one(0, 10, 1, 3)), false},
		{key(0, api.Win{}), false},
		{key(2, one(0, 10, 1, 3)), false},
	} {
		if got := keyed.Empty(r.k); got != r.want {
			t.Errorf("Empty(%v) is %t", r.k, got)
		}
	}
}
