package panes_test

import (
	"math"
	"math/rand"
	"slices"
	"strings"
	"testing"

	"keepsake/api"
	"keepsake/panes"
)

// compared holds how two panes are ordered against the chapter, both ways round.
func compared(t *testing.T, a, b api.Pane) {
	t.Helper()
	if got, back, want := panes.Compare(a, b), panes.Compare(b, a), compareOf(a, b); got != want || back != -want {
		t.Errorf("Compare(%+v, %+v) is %d, turned about %d; want %d", a, b, got, back, want)
	}
}

// changes raise one field of a pane each, in the order in which they tell.
func changes() []func(p *api.Pane, n int64) {
	return []func(p *api.Pane, n int64){
		func(p *api.Pane, n int64) { p.Key += strings.Repeat("x", int(min(n, 9))) },
		func(p *api.Pane, n int64) { p.Start += n },
		func(p *api.Pane, n int64) { p.End += n },
		func(p *api.Pane, n int64) { p.Kind += api.PaneKind(n) },
		func(p *api.Pane, n int64) { p.Nth += n },
		func(p *api.Pane, n int64) { p.Count += n },
		func(p *api.Pane, n int64) { p.Sum += n },
		func(p *api.Pane, n int64) { p.Min += n },
		func(p *api.Pane, n int64) { p.Max += n },
	}
}

// P18.1: panes that differ in one field alone, in each of the nine; and where a later field says otherwise, the earlier one tells.
func TestCompareFields(t *testing.T) {
	all := changes()
	for at, change := range all {
		for _, from := range []api.Pane{{}, late(), pane("a", -5, -3, api.Early, -1, -1, -1, -1, -1)} {
			for _, n := range []int64{1, 2, 7} {
				more := from
				change(&more, n)
				if c := panes.Compare(from, more); c != -1 {
					t.Errorf("Compare(%+v, %+v) is %d", from, more, c)
				}
				compared(t, from, more)
				compared(t, more, from)
				compared(t, more, more)
				for _, later := range all[at+1:] {
					less := from
					later(&less, 9)
					if c := panes.Compare(less, more); c != -1 {
						t.Errorf("Compare(%+v, %+v) is %d", less, more, c)
					}
					compared(t, less, more)
				}
			}
		}
	}
}

// P18.1: the numbers are compared as numbers, at the bounds too; the keys by their bytes; panes that may not be are compared likewise.
func TestCompareBounds(t *testing.T) {
	numbers := []int64{least, least + 1, -2, -1, 0, 1, 2, greatest - 1, greatest}
	for _, x := range numbers {
		for _, y := range numbers {
			for at := range 7 {
				n, m := make([]int64, 7), make([]int64, 7)
				n[at], m[at] = x, y
				compared(t, pane("a", n[0], n[1], api.Late, n[2:]...), pane("a", m[0], m[1], api.Late, m[2:]...))
			}
			compared(t, api.Pane{Kind: api.PaneKind(x)}, api.Pane{Kind: api.PaneKind(y)})
		}
	}
	if c := panes.Compare(api.Pane{Kind: math.MinInt}, api.Pane{Kind: math.MaxInt}); c != -1 {
		t.Errorf("of kinds that are none: %d", c)
	}
	names := []string{"", "\x00", "\x00\x00", "A", "Z", "a", "a\x00", "aa", "b", "\x7f", "\x80", "é", "\xff", strings.Repeat("a", 256), strings.Repeat("a", 257), strings.Repeat("b", 1000)}
	for _, a := range names {
		for _, b := range names {
			compared(t, of(a, 9), of(b, 1))
		}
	}
}

// P18.1: drawn panes; and the order is one.
func TestCompareDrawn(t *testing.T) {
	for seed := range int64(300) {
		d := newDrawer(rand.New(rand.NewSource(seed)))
		list := d.list(12)
		for _, a := range list {
			for _, b := range list {
				compared(t, a, b)
				if (panes.Compare(a, b) == 0) != (a == b) {
					t.Errorf("Compare(%+v, %+v) is %d", a, b, panes.Compare(a, b))
				}
			}
		}
		sorted := slices.Clone(list)
		slices.SortFunc(sorted, panes.Compare)
		for i, a := range sorted {
			for _, b := range sorted[i:] {
				if panes.Compare(a, b) > 0 {
					t.Errorf("%+v comes ahead of %+v", a, b)
				}
			}
		}
	}
}
