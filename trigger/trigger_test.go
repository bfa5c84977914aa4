package trigger_test

import (
	"math/rand"
	"testing"

	"keepsake/api"
	"keepsake/trigger"
)

func TestBehind(t *testing.T) {
	for _, r := range []struct {
		early      int
		since, end int64
		mark       int64
		kind       api.PaneKind
	}{
		// The chapter's.
		{2, 2, 10, 9, api.Early}, {2, 2, 10, 10, api.Late}, {3, 2, 10, 9, 0}, {0, 2, 10, 9, 0},

		// The mark one below the End, at it, above it.
		{0, 0, 10, 9, 0}, {0, 0, 10, 10, api.Late}, {0, 0, 10, 11, api.Late}, {9, 9, 10, 11, api.Late}, {9, 8, 10, 10, api.Late}, {1, 1, -5, -6, api.Early}, {1, 1, -5, -5, api.Late},

		// Since one below Early, at it, above it; Early 0 at any Since.
		{5, 4, 10, 9, 0}, {5, 5, 10, 9, api.Early}, {5, 6, 10, 9, api.Early}, {1, 0, 10, 9, 0}, {1, 1, 10, 9, api.Early}, {0, 0, 10, 9, 0}, {0, 1, 10, 9, 0}, {0, -1, 10, 9, 0}, {0, greatest, 10, 9, 0}, {0, least, 10, 9, 0},
		{api.MaxEarly, api.MaxEarly - 1, 10, 9, 0}, {api.MaxEarly, api.MaxEarly, 10, 9, api.Early}, {api.MaxEarly, api.MaxEarly + 1, 10, 9, api.Early}, {api.MaxEarly, most, 10, 9, api.Early},

		// Numbers that may not be: what is said holds at them, too.
		{-1, -2, 10, 9, 0}, {-1, -1, 10, 9, api.Early}, {-1, 0, 10, 9, api.Early}, {least, least, 10, 9, api.Early}, {least + 1, least, 10, 9, 0}, {greatest, greatest - 1, 10, 9, 0}, {greatest, greatest, 10, 9, api.Early}, {1 << 32, 1, 10, 9, 0}, {1 << 32, 1 << 32, 10, 9, api.Early}, {1, 1 << 32, 10, 9, api.Early}, {1, -1 << 32, 10, 9, 0},

		// The ends of all numbers.
		{0, 0, least, least, api.Late}, {0, 0, greatest, greatest - 1, 0}, {0, 0, greatest, greatest, api.Late}, {0, 0, greatest, least, 0}, {0, 0, least, greatest, api.Late}, {1, 1, greatest, least, api.Early}, {0, 0, api.MaxTime, api.MaxTime, api.Late}, {0, 0, api.MaxTime + 1, api.MaxTime, 0},
	} {
		w := ending(r.end-10, r.end)
		w.Since = r.since
		c := job(r.early, 5, false)
		if kind, ok := trigger.Behind(c, w, r.mark); kind != r.kind || ok != (r.kind != 0) {
			t.Errorf("Behind with Early %d, Since %d, End %d at %d is %d, %t, want %d", r.early, r.since, r.end, r.mark, kind, ok, r.kind)
		}
		if kind, ok := behindOf(c, w, r.mark); kind != r.kind || ok != (r.kind != 0) {
			t.Errorf("the model says of Early %d, Since %d, End %d at %d %d, %t", r.early, r.since, r.end, r.mark, kind, ok)
		}
	}
}

// Nothing else of a window or of a job is asked.
func TestBehindAsksNoMore(t *testing.T) {
	for _, n := range edges() {
		w := api.Win{Span: span(n, 10), Hold: n, Tally: of(n, n, n, n), Since: 2, Panes: n}
		c := api.Config{Groups: int(n), Sources: int(n), Kind: api.Kind(n), Size: n, Slide: n, Offset: n, Gap: n, Late: n, Early: 2, Discard: n%2 == 0}
		if kind, ok := trigger.Behind(c, w, 9); kind != api.Early || !ok {
			t.Errorf("Behind(%v, %v, 9) is %d, %t", c, w, kind, ok)
		}
		if kind, ok := trigger.Behind(c, w, 10); kind != api.Late || !ok {
			t.Errorf("Behind(%v, %v, 10) is %d, %t", c, w, kind, ok)
		}
		c.Early = 3
		if kind, ok := trigger.Behind(c, w, 9); kind != 0 || ok {
			t.Errorf("Behind(%v, %v, 9) is %d, %t", c, w, kind, ok)
		}
		if !trigger.OnTime(w, 9, 10) || trigger.OnTime(w, 10, 11) || trigger.OnTime(w, 8, 9) {
			t.Errorf("OnTime of %v", w)
		}
	}
}

func TestOnTime(t *testing.T) {
	for _, r := range []struct {
		end, from, to int64
		want          bool
	}{
		// The chapter's.
		{10, 9, 10, true}, {10, 10, 20, false}, {10, 3, 9, false},

		// From and to at the End and beside it.
		{10, 9, 9, false}, {10, 9, 11, true}, {10, 10, 10, false}, {10, 10, 11, false}, {10, 11, 11, false}, {10, 11, 20, false}, {10, 8, 9, false}, {10, 8, 10, true}, {10, 0, 20, true},
		// A mark that falls passes nothing.
		{10, 11, 9, false}, {10, 10, 9, false}, {10, 20, 10, false}, {10, 20, 0, false}, {10, 9, 8, false}, {10, 11, 10, false},
		{-10, -11, -10, true}, {-10, -10, -9, false}, {-10, -12, -11, false}, {0, -1, 0, true}, {0, 0, 1, false},

		// The ends of all numbers.
		{least, least, greatest, false}, {least + 1, least, least + 1, true}, {greatest, greatest - 1, greatest, true}, {greatest, least, greatest, true}, {greatest, least, greatest - 1, false}, {greatest, greatest, greatest, false}, {least, greatest, least, false}, {least, least, least, false}, {0, least, greatest, true}, {0, greatest, least, false},
		{api.MaxTime, api.MaxTime - 1, api.MaxTime, true}, {api.MaxTime + 1, api.MinTime, api.MaxTime, false}, {api.MinTime, api.MinTime, api.MaxTime, false}, {api.MinTime + 1, api.MinTime, api.MaxTime, true},
	} {
		if got := trigger.OnTime(ending(r.end-10, r.end), r.from, r.to); got != r.want {
			t.Errorf("OnTime with the End %d, from %d to %d is %t", r.end, r.from, r.to, got)
		}
	}
}

// A mark passes each End just once, however it gets there.
func TestOnTimeJustOnce(t *testing.T) {
	for end := int64(1); end <= 8; end++ {
		for _, marks := range [][]int64{{0, 8}, {0, 1, 2, 3, 4, 5, 6, 7, 8}, {0, 4, 4, 8}, {0, 3, 5, 8}, {0, 0, 1, 7, 8, 8}} {
			times := 0
			for i := range marks[1:] {
				if trigger.OnTime(ending(0, end), marks[i], marks[i+1]) {
					times++
				}
			}
			if times != 1 {
				t.Errorf("the marks %v pass the End %d %d times", marks, end, times)
			}
		}
	}
}

func TestBehindAndOnTimeAtEdges(t *testing.T) {
	for _, end := range edges() {
		for _, from := range edges() {
			for _, to := range edges() {
				w := ending(0, end)
				if got, want := trigger.OnTime(w, from, to), from < end && end <= to; got != want {
					t.Fatalf("OnTime with the End %d, from %d to %d is %t", end, from, to, got)
				}
				w.Since = from
				c := job(int(to), 0, false)
				for _, mark := range []int64{least, end - 1, end, end + 1, greatest} {
					kind, ok := trigger.Behind(c, w, mark)
					if wantKind, want := behindOf(c, w, mark); kind != wantKind || ok != want {
						t.Fatalf("Behind(%v, %v, %d) is %d, %t, want %d, %t", c, w, mark, kind, ok, wantKind, want)
					}
				}
			}
		}
	}
}

func TestBehindOfAny(t *testing.T) {
	r := rand.New(rand.NewSource(1))
	for i := range 100000 {
		wide := i%2 == 0
		c, w, mark := anyJob(r, wide), anyWin(r, wide), drawn(r, wide)
		kind, ok := trigger.Behind(c, w, mark)
		if wantKind, want := behindOf(c, w, mark); kind != wantKind || ok != want {
			t.Fatalf("Behind(%v, %v, %d) is %d, %t, want %d, %t", c, w, mark, kind, ok, wantKind, want)
		}
	}
}
