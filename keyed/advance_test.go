package keyed_test

import (
	"math/rand"
	"testing"

	"keepsake/api"
)

// A window tells when the watermark comes to its End, and is taken away when it comes to its End and Late.
func TestAdvanceToTheEnds(t *testing.T) {
	x := one(0, 10, 7, 3)
	told, gone := win(0, 10, 1, 7, 7, 7, 0, 1, 3), win(0, 10, 0, 0, 0, 0, 0, 1, 3)
	onTime := panes(pane(api.OnTime, 0, 10, 0, 1, 7, 7, 7))
	for _, kind := range []func(int64, int, bool) api.Config{tumbling, sliding, session} {
		for _, early := range []int{0, 1, 3} {
			c, d := kind(5, early, false), kind(5, early, true)
			for _, w0 := range []int64{api.MinTime, -1, 0, 9} {
				wantAdvance(t, c, key(4, x), w0, 9, answer{k: key(4, x)})
				wantAdvance(t, c, key(4, x), w0, 10, answer{k: key(4, told), panes: onTime})
				wantAdvance(t, d, key(4, x), w0, 10, answer{k: key(4, gone), panes: onTime})
				wantAdvance(t, c, key(4, x), w0, 14, answer{k: key(4, told), panes: onTime})
				wantAdvance(t, c, key(4, x), w0, 15, answer{k: key(4), panes: onTime})
				wantAdvance(t, d, key(4, x), w0, 16, answer{k: key(4), panes: onTime})
				wantAdvance(t, kind(0, early, false), key(4, x), w0, 10, answer{k: key(4), panes: onTime})
				wantAdvance(t, kind(0, early, true), key(4, x), w0, api.MaxTime, answer{k: key(4), panes: onTime})
			}
			// From a watermark that has come to its End already it tells no more, whatever stands in it.
			for _, w1 := range []int64{10, 11, 14} {
				wantAdvance(t, c, key(4, x), 10, w1, answer{k: key(4, x)})
				wantAdvance(t, d, key(4, told), 10, w1, answer{k: key(4, told)})
			}
			wantAdvance(t, c, key(4, x), 10, 15, answer{k: key(4)})
			wantAdvance(t, c, key(4, x), 12, api.MaxTime, answer{k: key(4)})
			// No windows.
			wantAdvance(t, c, key(4), api.MinTime, api.MaxTime, answer{k: key(4)})
			wantAdvance(t, c, api.KeyState{Windows: []api.Win{}}, 0, 1, answer{})
		}
	}
}

// From a watermark to itself nothing is told; what is expired is taken away.
func TestAdvanceToItself(t *testing.T) {
	x, y, z := one(0, 10, 7, 3), one(10, 20, 7, 13), one(20, 30, 7, 23)
	for _, c := range kinds() {
		for _, r := range []struct {
			w    int64
			left []api.Win
		}{
			{api.MinTime, []api.Win{x, y, z}}, {10, []api.Win{x, y, z}}, {14, []api.Win{x, y, z}}, {15, []api.Win{y, z}}, {24, []api.Win{y, z}}, {25, []api.Win{z}}, {34, []api.Win{z}}, {35, nil}, {api.MaxTime, nil},
		} {
			wantAdvance(t, c, key(1, x, y, z), r.w, r.w, answer{k: key(1, r.left...)})
		}
	}
}

// Several windows tell by rising End, of one End by rising Start.
func TestAdvanceInItsOrder(t *testing.T) {
	c := sliding(0, 0, false)
	c.Late = 4
	k := key(0, one(0, 30, 1, 3), one(2, 12, 2, 3), one(3, 5, 3, 3), one(3, 12, 4, 3), one(4, 40, 5, 4), one(5, 12, 6, 5), one(6, 11, 7, 6), one(7, 30, 8, 7))
	told := func(start, end, v int64) api.Pane { return pane(api.OnTime, start, end, 0, 1, v, v, v) }
	left := func(start, end, v, hold int64) api.Win { return win(start, end, 1, v, v, v, 0, 1, hold) }
	wantAdvance(t, c, k, 0, 30, answer{
		k:     key(0, left(0, 30, 1, 3), one(4, 40, 5, 4), left(7, 30, 8, 7)),
		panes: panes(told(3, 5, 3), told(6, 11, 7), told(2, 12, 2), told(3, 12, 4), told(5, 12, 6), told(0, 30, 1), told(7, 30, 8)),
	})
	wantAdvance(t, c, k, 5, 12, answer{
		k:     key(0, one(0, 30, 1, 3), left(2, 12, 2, 3), left(3, 12, 4, 3), one(4, 40, 5, 4), left(5, 12, 6, 5), left(6, 11, 7, 6), one(7, 30, 8, 7)),
		panes: panes(told(6, 11, 7), told(2, 12, 2), told(3, 12, 4), told(5, 12, 6)),
	})
	// The job's own windows.
	c = sliding(5, 0, true)
	wantAdvance(t, c, key(0, one(0, 10, 1, 7), one(5, 15, 1, 7), one(10, 20, 2, 12)), 7, 15, answer{
		k:     key(0, win(5, 15, 0, 0, 0, 0, 0, 1, 7), one(10, 20, 2, 12)),
		panes: panes(told(0, 10, 1), told(5, 15, 1)),
	})
}

// With Discard a pane may count nothing; Panes goes no further than MaxCount; Sum, Min and Max are told as they stand there.
func TestAdvanceTellsWhatThereIs(t *testing.T) {
	for _, kind := range []func(int64, int, bool) api.Config{tumbling, sliding, session} {
		wantAdvance(t, kind(5, 2, true), key(0, win(0, 10, 0, 0, 0, 0, 0, 1, 3)), 3, 10, answer{k: key(0, win(0, 10, 0, 0, 0, 0, 0, 2, 3)), panes: panes(pane(api.OnTime, 0, 10, 1, 0, 0, 0, 0))})
		wantAdvance(t, kind(5, 0, false), key(0, win(0, 10, 0, 9, 8, 7, 0, 1, 3)), 3, 10, answer{k: key(0, win(0, 10, 0, 9, 8, 7, 0, 2, 3)), panes: panes(pane(api.OnTime, 0, 10, 1, 0, 9, 8, 7))})
		for _, n := range []int64{most - 2, most - 1, most} {
			wantAdvance(t, kind(5, 0, false), key(n, win(0, 10, n, 9, 8, 7, n, n, 3)), 3, 10, answer{k: key(n, win(0, 10, n, 9, 8, 7, 0, min(n+1, most), 3)), panes: panes(pane(api.OnTime, 0, 10, n, n, 9, 8, 7))})
		}
	}
}

// A window that ends above MaxTime is never due; End and Late together may lie above it, too.
func TestAdvanceAtTheEnds(t *testing.T) {
	low, high := int64(api.MinTime), int64(api.MaxTime)
	at, above := one(high-10, high, 1, high-5), one(high-9, high+1, 1, high-5)
	told := win(high-10, high, 1, 1, 1, 1, 0, 1, high-5)
	onTime := panes(pane(api.OnTime, high-10, high, 0, 1, 1, 1, 1))
	wantAdvance(t, tumbling(1, 0, false), key(0, at, above), low, high, answer{k: key(0, told, above), panes: onTime})
	wantAdvance(t, tumbling(0, 0, false), key(0, at, above), low, high, answer{k: key(0, above), panes: onTime})
	wantAdvance(t, tumbling(api.MaxSpan, 0, false), key(0, at, above), high-1, high, answer{k: key(0, told, above), panes: onTime})
	wantAdvance(t, tumbling(api.MaxSpan, 0, false), key(0, one(high, highest, 1, high)), low, high, answer{k: key(0, one(high, highest, 1, high))})
	// Windows below all times are due at the least watermark already, and tell nothing any more.
	wantAdvance(t, tumbling(5, 0, false), key(0, one(low-10, low, 1, low)), low, low+4, answer{k: key(0, one(low-10, low, 1, low))})
	wantAdvance(t, tumbling(5, 0, false), key(0, one(low-10, low, 1, low)), low, low+5, answer{k: key(0)})
	wantAdvance(t, tumbling(5, 0, false), key(0, one(lowest, lowest+1, 1, low)), low, low, answer{k: key(0)})
	wantAdvance(t, tumbling(5, 0, false), key(0, one(low-9, low+1, 1, low)), low, low+1, answer{k: key(0, win(low-9, low+1, 1, 1, 1, 1, 0, 1, low)), panes: panes(pane(api.OnTime, low-9, low+1, 0, 1, 1, 1, 1))})
}

func TestAdvanceOfAny(t *testing.T) {
	r := rand.New(rand.NewSource(5))
	tells := 0
	for i := range 100000 {
		wide := i%2 == 0
		c := anyJob(r, wide)
		k, w0, w1 := anyState(r, c, wide), anyTime(r, wide), anyTime(r, wide)
		got, want := advance(t, c, k, w0, w1), advanceOf(c, k, w0, w1)
		if !got.is(want) {
			t.Fatalf("Advance(%v, %v, %d, %d) is\n%v, want\n%v", c, k, w0, w1, got, want)
		}
		tells += len(got.panes)
	}
	if tells < 1000 {
		t.Errorf("what is drawn is too even: %d panes were told", tells)
	}
}
