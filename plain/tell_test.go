package plain_test

import (
	"math/rand"
	"slices"
	"strings"
	"testing"

	"keepsake/api"
	"keepsake/plain"
)

// P14.3: saves in the midst of items, and at their ends.
func TestSaved(t *testing.T) {
	w := newTwin(t, example())
	w.wants(t, items(save(), event("a", 3, 5), save(), save(), mark(13)), pane("a", 3, 13, api.OnTime, 0, 1, 5, 5, 5))
	w.wants(t, items(save()))
	w.wants(t, items(event("b", 3, 1), mark(18), event("a", 4, 1), save()), pane("b", 3, 13, api.Late, 0, 1, 1, 1, 1))
	one := state(example(), []int64{minTime}, key("a", 0, win(3, 13, 1, 5, 5, 5, 1, 0, 3)))
	want := []api.State{
		begin(example()), one, one,
		state(example(), []int64{13}, key("a", 0, win(3, 13, 1, 5, 5, 5, 0, 1, 3))),
		state(example(), []int64{18}, key("a", 1)),
	}
	if got := w.j.Saved(); !sameStates(got, want) {
		t.Errorf("Saved are\n%+v, want\n%+v", got, want)
	}
	if w.j.Done() != 10 || !sameState(w.j.State(), want[4]) {
		t.Errorf("Done is %d, State %+v", w.j.Done(), w.j.State())
	}
	// One of From has none of them.
	other := fromTwin(t, w.j.State())
	other.same(t)
	other.wants(t, items(save()))
	if got := other.j.Saved(); !sameStates(got, want[4:]) {
		t.Errorf("Saved are\n%+v, want\n%+v", got, want[4:])
	}
}

// P14.3: a key that there is, one that there is not, one that is there no more, a text that is none.
func TestKey(t *testing.T) {
	c := example()
	c.Groups = 10
	w := newTwin(t, c)
	long := strings.Repeat("x", 256)
	w.do(t, event("a", 3, 5), event("", 3, 1), event(long, 3, 2), event("gone", 3, 1), mark(5), event("foobar", 40, 1))
	has := func(name string, want api.KeyState, wantGroup int, wantFound bool) {
		t.Helper()
		if k, group, found := w.j.Key(name); !sameKey(k, want) || group != wantGroup || found != wantFound {
			t.Errorf("Key(%q) is %+v, %d, %t, want %+v, %d, %t", name, k, group, found, want, wantGroup, wantFound)
		}
	}
	one := func(v int64) api.Win { return win(3, 13, 1, v, v, v, 1, 0, 3) }
	_, group, _ := w.want.key(long)
	has("a", key("a", 0, one(5)), 0, true) // chapter 4 tells the groups of a, of foobar, and the hash of no bytes
	has("foobar", key("foobar", 0, win(33, 43, 1, 1, 1, 1, 1, 0, 40)), 0, true)
	has("", key("", 0, one(1)), 1, true)
	has(long, key(long, 0, one(2)), group, true)
	has("A", key("A", 0), int(modelGroup("A", 10)), false)
	has(long[1:], key(long[1:], 0), int(modelGroup(long[1:], 10)), false)
	has(long+"x", api.KeyState{}, 0, false)
	has(strings.Repeat("a", 1<<20), api.KeyState{}, 0, false)
	w.do(t, mark(18))
	has("gone", key("gone", 0), int(modelGroup("gone", 10)), false)
	w.do(t, event("gone", 3, 1))
	has("gone", key("gone", 1), int(modelGroup("gone", 10)), true)
	w.same(t)
	if n := w.j.Done(); n != 8 {
		t.Errorf("Done is %d", n)
	}
}

// modelGroup is a key's group, reckoned byte by byte.
func modelGroup(name string, groups uint64) uint64 {
	h := uint64(2166136261)
	for _, b := range []byte(name) {
		h = (h ^ uint64(b)) * 16777619 % (1 << 32)
	}
	return h % groups
}

// Asking changes nothing.
func TestAskingChangesNothing(t *testing.T) {
	w := newTwin(t, example())
	w.do(t, event("a", 3, 5), save(), mark(5))
	for range 3 {
		w.j.Key("nobody")
		w.j.Key(strings.Repeat("x", 300))
		w.j.Copy()
		w.j.State()
		w.j.Saved()
		w.j.Panes()
		w.j.Items()
		w.same(t)
	}
	if n := len(w.j.State().Keys); n != 1 {
		t.Errorf("there are %d keys", n)
	}
}

// P14.3: a copy and its origin go on apart, whichever is changed first.
func TestCopiesGoOnApart(t *testing.T) {
	for _, c := range kinds() {
		a := newTwin(t, with(c, 2, true))
		a.do(t, event("a", 3, 5), event("b", 4, 1), save(), mark(5), event("a", 9, 1))
		b := a.copied(t)
		b.same(t)
		if b.j.Done() != 5 || len(b.j.Saved()) != 1 || len(b.j.Panes()) != len(a.j.Panes()) {
			t.Errorf("a copy has done %d, saved %v, told %v", b.j.Done(), b.j.Saved(), b.j.Panes())
		}
		a.do(t, event("a", 3, 1), save(), event("new", 1, 1))
		b.same(t)
		b.do(t, mark(20), event("b", 4, 7), save(), save())
		a.same(t)
		b.same(t)
		d := b.copied(t)
		b.do(t, mark(400))
		a.do(t, event("b", 9, 9))
		d.same(t)
		d.do(t, event("b", 9, 9), mark(300))
		a.same(t)
		b.same(t)
		d.same(t)
	}
}

// A whole family, copied from one another, each with its own items: whatever room is left where panes and saves stand.
func TestCopiesOfCopies(t *testing.T) {
	r := rand.New(rand.NewSource(3))
	for i := range 60 {
		d := newDrawer(r, i%3 == 0)
		family := []twin{newTwin(t, d.c)}
		for range 80 {
			w := family[r.Intn(len(family))]
			if r.Intn(6) == 0 && len(family) < 8 {
				family = append(family, w.copied(t))
			}
			w.do(t, d.item())
			w.do(t, d.items(r.Intn(3))...)
			family[r.Intn(len(family))].same(t)
		}
		for _, w := range family {
			w.same(t)
		}
	}
}

// Two jobs have nothing to do with one another, not even such as stand at one state.
func TestJobsGoOnApart(t *testing.T) {
	s := state(example(), []int64{5}, key("a", 0, win(3, 13, 1, 1, 1, 1, 1, 0, 3)))
	a, b := fromTwin(t, s), fromTwin(t, s)
	a.do(t, event("a", 3, 1), mark(13), save())
	b.same(t)
	b.do(t, event("b", 3, 1))
	a.same(t)
	b.same(t)
}

// A job that is assigned is the same one: nothing goes astray between the two.
func TestAssignedJob(t *testing.T) {
	a := newTwin(t, example())
	a.do(t, event("a", 3, 1), save(), mark(13))
	other := *a.j
	b := twin{&other, a.want}
	for i := range int64(5) {
		a.do(t, event("a", 3, i), save())
		b.same(t)
		b.do(t, event("a", 4, i), save())
		a.same(t)
	}
}

// Panes are all that was told since New, call behind call; a refused call tells nothing.
func TestPanes(t *testing.T) {
	j, _ := plain.New(with(example(), 1, false))
	var all []api.Pane
	for i := range int64(30) {
		l, e := j.Items(event("a", i, i), event("b", i, i))
		if len(l) < 2 || e != api.OK {
			t.Fatalf("Items tell %v, %d", l, e)
		}
		all = append(all, l...)
		j.Items(event("a", i, i), api.Item{})
		l, _ = j.Item(mark(i))
		all = append(all, l...)
		if got := j.Panes(); !slices.Equal(got, all) || j.Done() != int(3*i+3) {
			t.Fatalf("Panes are %v, want %v", got, all)
		}
	}
}
