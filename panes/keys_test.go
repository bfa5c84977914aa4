package panes_test

import (
	"math/rand"
	"slices"
	"strings"
	"testing"

	"keepsake/api"
	"keepsake/panes"
)

// told holds all that is told of a list against the chapter.
func told(t *testing.T, list []api.Pane) {
	t.Helper()
	rows := panes.Keys(list)
	if want := keysOf(list); !sameRows(rows, want) || len(want) == 0 && rows != nil {
		t.Errorf("Keys(%v) is %v, want %v", list, rows, want)
	}
	for _, key := range append([]string{"", "a", "none", strings.Repeat("k", 257)}, namesOf(list)...) {
		if l, want := panes.Of(list, key), ofKey(list, key); !slices.Equal(l, want) || len(want) == 0 && l != nil {
			t.Errorf("Of(%v, %q) is %v, want %v", list, key, l, want)
		}
	}
	if l, want := panes.Last(list), lastOf(list); !slices.Equal(l, want) || len(want) == 0 && l != nil {
		t.Errorf("Last(%v) is %v, want %v", list, l, want)
	}
}

func namesOf(list []api.Pane) []string {
	var l []string
	for _, row := range keysOf(list) {
		l = append(l, row.Key)
	}
	return l
}

// held holds two lists against one another, as the chapter does.
func held(t *testing.T, a, b []api.Pane) {
	t.Helper()
	if got, back, want := panes.Alike(a, b), panes.Alike(b, a), alikeOf(a, b); got != want || back != want {
		t.Errorf("Alike(%v, %v) is %t, turned about %t; want %t", a, b, got, back, want)
	}
	if got, want := panes.Begins(a, b), beginsOf(a, b); got != want {
		t.Errorf("Begins(%v, %v) is %t", a, b, got)
	}
	if got, want := panes.Begins(b, a), beginsOf(b, a); got != want {
		t.Errorf("Begins(%v, %v) is %t", b, a, got)
	}
}

// The chapter's examples of lists.
func TestListExamples(t *testing.T) {
	a1, b1, b2 := of("a", 1), of("b", 1), of("b", 2)
	l, m := []api.Pane{b1, a1, b2}, []api.Pane{a1, b1, b2}
	if rows := panes.Keys(l); !sameRows(rows, []api.KeyPanes{{Key: "a", Panes: []api.Pane{a1}}, {Key: "b", Panes: []api.Pane{b1, b2}}}) {
		t.Errorf("Keys is %v", rows)
	}
	if x := panes.Of(l, "b"); !slices.Equal(x, []api.Pane{b1, b2}) {
		t.Errorf("Of is %v", x)
	}
	if !panes.Alike(l, m) || panes.Alike(l, []api.Pane{b2, a1, b1}) {
		t.Errorf("Alike is %t, %t", panes.Alike(l, m), panes.Alike(l, []api.Pane{b2, a1, b1}))
	}
	if !panes.Begins([]api.Pane{b1}, m) || panes.Begins([]api.Pane{b2}, m) {
		t.Errorf("Begins is %t, %t", panes.Begins([]api.Pane{b1}, m), panes.Begins([]api.Pane{b2}, m))
	}
}

// P18.4: keys that are empty, that begin one another, of bytes above 127, and such as may not be.
func TestKeysRise(t *testing.T) {
	told(t, nil)
	told(t, []api.Pane{})
	names := []string{"b", "", "aa", "\xff", "a", "é", "\x00", strings.Repeat("k", 257), "a\x00", "Z", strings.Repeat("k", 256)}
	var l []api.Pane
	for round := range int64(3) {
		for _, key := range names {
			l = append(l, of(key, round))
			told(t, l)
		}
	}
	// The same pane more than once is told more than once.
	told(t, []api.Pane{of("a", 1), of("b", 1), of("a", 1), of("b", 1)})
	told(t, []api.Pane{{}, {}, {Kind: 9}})
}

// P18.4: windows of one Start and unlike Ends, of unlike Starts and one End, several panes of one window, the last of which need not be the greatest.
func TestLast(t *testing.T) {
	w := func(key string, start, end, nth int64) api.Pane {
		return pane(key, start, end, api.Late, nth, 0, 0, 0, 0)
	}
	l := []api.Pane{w("b", 0, 10, 5), w("a", 0, 20, 1), w("a", 0, 10, 2), w("a", -5, 10, 3), w("a", 0, 10, 1), w("b", 0, 10, 4), w("a", 5, 10, 0), w("a", 0, 20, 7), w("", least, greatest, 0), w("", greatest, least, 0)}
	want := []api.Pane{w("", least, greatest, 0), w("", greatest, least, 0), w("a", -5, 10, 3), w("a", 0, 10, 1), w("a", 0, 20, 7), w("a", 5, 10, 0), w("b", 0, 10, 4)}
	if x := panes.Last(l); !slices.Equal(x, want) {
		t.Errorf("Last is %v", x)
	}
	for end := range l {
		told(t, l[:end])
	}
	// Panes of one window may be of unlike kinds and tallies.
	told(t, []api.Pane{pane("a", 0, 10, api.Late, 9, 9, 9, 9, 9), pane("a", 0, 10, api.Early, 0, 1, 1, 1, 1)})
	told(t, []api.Pane{pane("a", 0, 10, api.Early, 0, 1, 1, 1, 1), pane("a", 0, 10, api.Late, 9, 9, 9, 9, 9)})
}

// P18.5: lists that differ in one pane, in the order of one key's panes, of which one is longer; nil and empty ones.
func TestHeld(t *testing.T) {
	a1, a2, b1, b2 := of("a", 1), of("a", 2), of("b", 1), of("b", 2)
	lists := [][]api.Pane{nil, {}, {a1}, {b1}, {b2}, {a1, a1}, {a1, b1}, {b1, a1}, {a1, b2}, {a1, a2}, {a2, a1}, {a1, b1, b2}, {b1, a1, b2}, {b1, b2, a1}, {b2, a1, b1}, {a1, b1, a2, b2}, {a1, b1, a2, b2, b2}, {b1, b2, a1, a2}, {of("", 1), a1}, {a1, of("", 1)}, {{}}}
	for _, a := range lists {
		for _, b := range lists {
			held(t, a, b)
		}
	}
	if !panes.Alike(nil, []api.Pane{}) || !panes.Begins(nil, nil) || !panes.Begins([]api.Pane{}, []api.Pane{a1}) || panes.Begins([]api.Pane{a1}, nil) {
		t.Error("lists of nothing are held otherwise")
	}
	for _, change := range changes() {
		other := a1
		change(&other, 1)
		for _, ahead := range [][]api.Pane{nil, {a2}, {b1, a2}} {
			for _, behind := range [][]api.Pane{nil, {a2}, {a2, b1}} {
				l, m := slices.Concat(ahead, []api.Pane{a1}, behind), slices.Concat(ahead, []api.Pane{other}, behind)
				held(t, l, m)
				if panes.Alike(l, m) || panes.Begins(l, m) || panes.Begins(m, l) {
					t.Errorf("%v and %v differ", l, m)
				}
			}
		}
	}
}

// P18.4, P18.5: drawn lists.
func TestDrawnLists(t *testing.T) {
	for seed := range int64(500) {
		d := newDrawer(rand.New(rand.NewSource(seed)))
		list := d.list(d.Intn(30))
		told(t, list)
		mixed := d.mixed(list)
		held(t, list, mixed)
		if !panes.Alike(list, mixed) {
			t.Errorf("%v and %v are alike", list, mixed)
		}
		held(t, list, d.list(d.Intn(3)))
		held(t, mixed[:d.Intn(len(mixed)+1)], list)
		if len(mixed) > 0 {
			at := d.Intn(len(mixed))
			held(t, slices.Delete(slices.Clone(mixed), at, at+1), list)
			mixed[at] = d.pane()
			held(t, mixed, list)
			d.Shuffle(len(mixed), func(i, k int) { mixed[i], mixed[k] = mixed[k], mixed[i] })
			held(t, mixed, list)
		}
	}
}

// P18.4, P18.5: long lists, of few keys and of many.
func TestLongLists(t *testing.T) {
	const n = 20000
	var few, many []api.Pane
	for i := range int64(n) {
		few = append(few, pane([]string{"a", "b"}[i%2], i%7, i%5+10, api.Late, i, 0, 0, 0, 0))
		many = append(many, of(string([]byte{byte(i >> 8), byte(i)}), i))
	}
	for _, l := range [][]api.Pane{few, many} {
		if rows := panes.Keys(l); !sameRows(rows, keysOf(l)) {
			t.Errorf("Keys of %d panes is %d rows", len(l), len(rows))
		}
		turned := slices.Clone(l)
		slices.Reverse(turned)
		if !panes.Alike(l, l) || !panes.Begins(l[:n-1], l) || panes.Begins(l, l[:n-1]) || panes.Alike(few, many) || panes.Alike(l[:n-1], l[1:]) {
			t.Error("long lists are held otherwise")
		}
		if panes.Alike(l, turned) != (&l[0] == &many[0]) {
			t.Error("a list and its turned one are held otherwise")
		}
	}
	if l := panes.Last(few); len(l) != 70 || !slices.IsSortedFunc(l, compareOf) {
		t.Errorf("Last is %d panes", len(l))
	}
	if l := panes.Last(many); len(l) != n {
		t.Errorf("Last is %d panes", len(l))
	}
}
