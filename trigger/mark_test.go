package trigger_test

import (
	"math/rand"
	"slices"
	"testing"

	"keepsake/api"
	"keepsake/trigger"
)

// marks holds Mark against the model, and tells what it answers.
func marks(t *testing.T, c api.Config, key string, l []api.Win, from, to int64) ([]api.Win, []api.Pane) {
	t.Helper()
	left, told := trigger.Mark(c, key, l, from, to)
	wantLeft, wantTold := markOf(c, key, l, from, to)
	if !slices.Equal(left, wantLeft) || !slices.Equal(told, wantTold) {
		t.Fatalf("Mark(%v, %q, %v, %d, %d) is %v, %v, want %v, %v", c, key, l, from, to, left, told, wantLeft, wantTold)
	}
	return left, told
}

func TestMark(t *testing.T) {
	a, b := example(), ending(5, 15)
	toldA, toldB := a, b
	toldA.Since, toldA.Panes = 0, 2
	toldB.Since, toldB.Panes = 0, 2
	bareA, bareB := toldA, toldB
	bareA.Tally, bareB.Tally = api.Tally{}, api.Tally{}
	paneA := api.Pane{Key: "k", Span: span(0, 10), Kind: api.OnTime, Nth: 1, Tally: of(2, 9, 4, 5)}
	paneB := api.Pane{Key: "k", Span: span(5, 15), Kind: api.OnTime, Nth: 1, Tally: of(2, 9, 4, 5)}
	type wins = []api.Win
	type panes = []api.Pane
	for _, r := range []struct {
		late     int64
		discard  bool
		l        wins
		from, to int64
		left     wins
		told     panes
	}{
		// The chapter's.
		{5, false, wins{a, b}, 0, 10, wins{toldA, b}, panes{paneA}},
		{5, false, wins{a, b}, 0, 15, wins{toldB}, panes{paneA, paneB}},

		// No window at all; none that the mark passes.
		{5, false, nil, 0, 15, nil, nil},
		{5, false, wins{}, 0, 15, nil, nil},
		{5, false, wins{a, b}, 0, 9, wins{a, b}, nil},
		{5, false, wins{a, b}, 10, 14, wins{a, b}, nil},
		{5, false, wins{a, b}, 10, 10, wins{a, b}, nil},

		// From at the End and beside it, to at the End and beside it.
		{99, false, wins{a}, 9, 10, wins{toldA}, panes{paneA}},
		{99, false, wins{a}, 9, 11, wins{toldA}, panes{paneA}},
		{99, false, wins{a}, 10, 11, wins{a}, nil},
		{99, false, wins{a}, 11, 12, wins{a}, nil},
		{99, false, wins{a}, 8, 9, wins{a}, nil},

		// Discard.
		{99, true, wins{a, b}, 0, 10, wins{bareA, b}, panes{paneA}},
		{99, true, wins{a, b}, 0, 20, wins{bareA, bareB}, panes{paneA, paneB}},

		// End and Late together one above to, at it, one below it; with and without a pane.
		{5, false, wins{a}, 0, 14, wins{toldA}, panes{paneA}},
		{5, false, wins{a}, 0, 15, nil, panes{paneA}},
		{5, false, wins{a}, 0, 16, nil, panes{paneA}},
		{5, false, wins{a}, 10, 14, wins{a}, nil},
		{5, false, wins{a}, 10, 15, nil, nil},
		{5, false, wins{a}, 10, 16, nil, nil},
		{0, false, wins{a, b}, 0, 10, wins{b}, panes{paneA}},
		{0, false, wins{a, b}, 0, 9, wins{a, b}, nil},
		// From a mark to itself, and to one below it, nothing is told, but what is over is taken away.
		{5, false, wins{a, b}, 15, 15, wins{b}, nil},
		{5, false, wins{a, b}, 99, 15, wins{b}, nil},
		{5, false, wins{a, b}, 99, 20, nil, nil},

		// Ends that do not rise in the list: panes by rising End, windows as they stood.
		{99, false, wins{b, a}, 0, 15, wins{toldB, toldA}, panes{paneA, paneB}},
		{99, false, wins{b, a}, 10, 15, wins{toldB, a}, panes{paneB}},
		{5, false, wins{b, a}, 0, 15, wins{toldB}, panes{paneA, paneB}},
		{99, false, wins{a, b, a}, 0, 15, wins{toldA, toldB, toldA}, panes{paneA, paneA, paneB}},

		// A Late below 0 takes away what the mark has not come to.
		{-1, false, wins{a, b}, 0, 9, wins{b}, nil},
		{-5, false, wins{a, b}, 0, 10, nil, panes{paneA}},
	} {
		c := job(2, r.late, r.discard)
		left, told := marks(t, c, "k", r.l, r.from, r.to)
		if !slices.Equal(left, r.left) || !slices.Equal(told, r.told) {
			t.Errorf("Mark(%v, %v, %d, %d) is %v, %v, want %v, %v", c, r.l, r.from, r.to, left, told, r.left, r.told)
		}
	}
}

// Windows of one End are told in the order of the list, whatever else stands in them.
func TestMarkOfOneEnd(t *testing.T) {
	var l []api.Win
	for i := range int64(100) {
		w := ending(i*37%100, 10-i%3)
		w.Panes, w.Count = 99-i, i
		l = append(l, w)
	}
	left, told := marks(t, job(0, 1, false), "k", l, 0, 10)
	if len(told) != 100 || len(left) != 34 {
		t.Fatalf("%d panes, %d windows are left", len(told), len(left))
	}
	for i, p := range told[1:] {
		if ahead := told[i]; ahead.End > p.End || ahead.End == p.End && ahead.Count >= p.Count {
			t.Fatalf("%v is told ahead of %v", ahead, p)
		}
	}
	for i, w := range left {
		if w.Count != 3*int64(i) || w.End != 10 {
			t.Fatalf("the window %v is left at %d", w, i)
		}
	}
}

// End and Late past all numbers.
func TestMarkReckonsWithoutBound(t *testing.T) {
	for _, r := range []struct {
		end, late, to int64
		over          bool
	}{
		{greatest, 1, greatest, false}, {greatest, 0, greatest, true}, {greatest, greatest, greatest, false}, {greatest - 1, 1, greatest, true}, {greatest - 1, 2, greatest, false}, {greatest, 1, least, false}, {1, greatest, greatest, false}, {0, greatest, greatest, true}, {2, greatest, 0, false},
		{least, -1, least, true}, {least, 0, least, true}, {least, least, least, true}, {least + 1, -2, least, true}, {least + 1, 0, least, false}, {least + 1, -1, least, true}, {least, 1, least, false}, {-1, least, least, true}, {0, least, least, true}, {1, least, least, false}, {greatest, least, -1, true}, {greatest, least, -2, false}, {least, greatest, -1, true}, {least, greatest, -2, false},
		{api.MaxTime, api.MaxSpan, api.MaxTime, false}, {api.MaxTime - api.MaxSpan, api.MaxSpan, api.MaxTime, true}, {api.MaxTime - api.MaxSpan + 1, api.MaxSpan, api.MaxTime, false}, {api.MaxTime + api.MaxSpan, api.MaxSpan, api.MaxTime, false},
	} {
		left, _ := trigger.Mark(job(0, r.late, false), "k", []api.Win{ending(0, r.end)}, greatest, r.to)
		if (len(left) == 0) != r.over || overOf(r.end, r.late, r.to) != r.over {
			t.Errorf("with the End %d, Late %d, to %d %d windows are left", r.end, r.late, r.to, len(left))
		}
	}
	for _, end := range edges() {
		for _, late := range edges() {
			for _, to := range edges() {
				for _, from := range []int64{least, end - 1, end, to} {
					marks(t, job(0, late, from%2 == 0), "k", []api.Win{ending(0, end), ending(end, 10)}, from, to)
				}
			}
		}
	}
}

// All lists of three windows with small Ends, all marks between them.
func TestSmallMarks(t *testing.T) {
	for n := range int64(5 * 5 * 5) {
		l := []api.Win{ending(0, n%5), ending(1, n/5%5), ending(2, n/25)}
		for from := int64(-1); from <= 5; from++ {
			for to := int64(-1); to <= 8; to++ {
				for late := int64(-1); late <= 3; late++ {
					marks(t, job(0, late, from%2 == 0), "k", l, from, to)
				}
			}
		}
	}
}

func TestMarkOfAny(t *testing.T) {
	r := rand.New(rand.NewSource(4))
	for i := range 50000 {
		wide := i%2 == 0
		l := make([]api.Win, r.Intn(30))
		for j := range l {
			l[j] = anyWin(r, wide)
		}
		from, to := drawn(r, wide), drawn(r, wide)
		if r.Intn(4) > 0 {
			from, to = min(from, to), max(from, to)
		}
		marks(t, anyJob(r, wide), anyKey(r), l, from, to)
	}
}

func TestMarkOfManyWindows(t *testing.T) {
	const many = 200000
	l := make([]api.Win, many)
	for i := range l {
		at := int64(i) * 7919 % many
		l[i] = ending(at-10, at)
	}
	left, told := trigger.Mark(job(0, 5, true), "k", l, -1, many)
	if len(told) != many || len(left) != 4 { // those that end at the last four times, above many less 5
		t.Fatalf("%d panes, %d windows are left", len(told), len(left))
	}
	for i, p := range told {
		if p.End != int64(i) {
			t.Fatalf("the pane %d is %v", i, p)
		}
	}
}
