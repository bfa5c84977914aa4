package trigger_test

import (
	"math/rand"
	"testing"

	"keepsake/api"
	"keepsake/trigger"
)

func TestTell(t *testing.T) {
	pane := api.Pane{Key: "k", Span: span(0, 10), Kind: api.OnTime, Nth: 1, Tally: of(2, 9, 4, 5)}
	kept := api.Win{Span: span(0, 10), Hold: 3, Tally: of(2, 9, 4, 5), Since: 0, Panes: 2}
	bare := api.Win{Span: span(0, 10), Hold: 3, Since: 0, Panes: 2}
	for _, kind := range []api.PaneKind{api.Early, api.OnTime, api.Late} {
		pane.Kind = kind
		if p, w, e := trigger.Tell("k", example(), kind, false); p != pane || w != kept || e != api.OK {
			t.Errorf("Tell of the kind %d is %v, %v, %v, want %v, %v", kind, p, w, e, pane, kept)
		}
		if p, w, e := trigger.Tell("k", example(), kind, true); p != pane || w != bare || e != api.OK {
			t.Errorf("Tell of the kind %d that discards is %v, %v, %v, want %v, %v", kind, p, w, e, pane, bare)
		}
	}
	// A window with nothing in it, and a key that is no text of letters.
	for _, key := range []string{"", "k", "\x00\xff", string(make([]byte, api.MaxKey)), string(make([]byte, 10*api.MaxKey))} {
		p, w, e := trigger.Tell(key, api.Win{}, api.Early, true)
		if p != (api.Pane{Key: key, Kind: api.Early}) || w != (api.Win{Panes: 1}) || e != api.OK {
			t.Errorf("Tell of nothing is %v, %v, %v", p, w, e)
		}
	}
}

// Kinds that are none of the three: nothing but the error is answered.
func TestTellRefuses(t *testing.T) {
	for _, kind := range []api.PaneKind{0, 4, -1, -2, -3, 5, 7, 257, 1 << 32, 1<<32 + 1, least, least + 1, greatest, greatest - 1} {
		for _, discard := range []bool{false, true} {
			if p, w, e := trigger.Tell("k", example(), kind, discard); p != (api.Pane{}) || w != (api.Win{}) || e != api.ErrArg {
				t.Errorf("Tell of the kind %d is %v, %v, %v", kind, p, w, e)
			}
		}
	}
}

// Panes one below MaxCount, at it, above it, below 0: Nth is what they were.
func TestTellCountsNoFurther(t *testing.T) {
	for _, r := range []struct{ panes, want int64 }{
		{0, 1}, {1, 2}, {most - 2, most - 1}, {most - 1, most}, {most, most}, {most + 1, most}, {greatest - 1, most}, {greatest, most},
		{-1, 0}, {-2, -1}, {-most, 1 - most}, {least, least + 1},
	} {
		w := example()
		w.Panes = r.panes
		for _, since := range countEdges() {
			w.Since = since
			for _, discard := range []bool{false, true} {
				p, left, e := trigger.Tell("k", w, api.Late, discard)
				if e != api.OK || p.Nth != r.panes || left.Panes != r.want || left.Since != 0 {
					t.Errorf("Tell with Panes %d, Since %d is Nth %d, then Panes %d, Since %d, %v", r.panes, since, p.Nth, left.Panes, left.Since, e)
				}
			}
		}
		if got := oneMoreOf(r.panes); got != r.want {
			t.Errorf("the model says of %d %d", r.panes, got)
		}
	}
}

// A tally is told and kept as it stands, one that can't be, too.
func TestTellTakesTalliesAsTheyStand(t *testing.T) {
	for _, x := range []api.Tally{{}, of(0, 7, -7, 77), of(-1, 1, 1, 1), of(most, 3, 5, 4), of(most+1, 0, 0, 0), of(greatest, greatest, greatest, greatest), of(least, least, least, least)} {
		w := example()
		w.Tally = x
		p, left, e := trigger.Tell("k", w, api.Early, false)
		if p.Tally != x || left.Tally != x || e != api.OK {
			t.Errorf("Tell of %v is %v, then %v, %v", x, p.Tally, left.Tally, e)
		}
		p, left, e = trigger.Tell("k", w, api.Early, true)
		if p.Tally != x || left.Tally != (api.Tally{}) || e != api.OK {
			t.Errorf("Tell of %v that discards is %v, then %v, %v", x, p.Tally, left.Tally, e)
		}
	}
}

func TestTellOfAny(t *testing.T) {
	r := rand.New(rand.NewSource(2))
	for i := range 100000 {
		wide := i%2 == 0
		key, w, kind, discard := anyKey(r), anyWin(r, wide), api.PaneKind(drawn(r, i%8 == 0)), i%3 == 0
		p, left, e := trigger.Tell(key, w, kind, discard)
		if wantP, wantLeft, wantE := tellOf(key, w, kind, discard); p != wantP || left != wantLeft || e != wantE {
			t.Fatalf("Tell(%q, %v, %d, %t) is %v, %v, %v, want %v, %v, %v", key, w, kind, discard, p, left, e, wantP, wantLeft, wantE)
		}
	}
}
