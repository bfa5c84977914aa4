package groups_test

import (
	"math/rand"
	"slices"
	"sort"
	"strings"
	"testing"
	"unsafe"

	"keepsake/api"
	"keepsake/groups"
)

func TestStretchesAreAllGroups(t *testing.T) {
	for _, p := range somePairs() {
		behind, least, most := 0, p.groups, 0
		for w, s := range groups.Stretches(p.workers, p.groups) {
			if s[0] != behind || s[1] <= s[0] {
				t.Fatalf("%d, %d: the worker %d has %v behind %d", p.workers, p.groups, w, s, behind)
			}
			behind = s[1]
			least, most = min(least, s[1]-s[0]), max(most, s[1]-s[0])
			first, last, _ := groups.Stretch(w, p.workers, p.groups)
			if s != [2]int{first, last} {
				t.Fatalf("%d, %d: the worker %d has %v, by Stretch %d, %d", p.workers, p.groups, w, s, first, last)
			}
			for _, g := range []int{s[0], s[1] - 1} {
				if got, e := groups.Worker(g, p.workers, p.groups); got != w || e != api.OK {
					t.Fatalf("Worker(%d, %d, %d) is %d, its stretch is that of %d", g, p.workers, p.groups, got, w)
				}
			}
		}
		if behind != p.groups || most-least > 1 {
			t.Errorf("%d, %d: they end at %d, have from %d to %d groups", p.workers, p.groups, behind, least, most)
		}
	}
}

// randomCounts are two numbers of workers with their groups.
func randomCounts(r *rand.Rand) (from, to, all int) {
	all = 1 + r.Intn(3000)
	return 1 + r.Intn(all), 1 + r.Intn(all), all
}

func TestMovesNowhere(t *testing.T) {
	for _, p := range somePairs() {
		if l, e := groups.Moves(p.workers, p.workers, p.groups); len(l) != 0 || e != api.OK {
			t.Errorf("Moves(%d, %d, %d) is %v, %v", p.workers, p.workers, p.groups, l, e)
		}
	}
}

func TestMovesToOne(t *testing.T) {
	for _, p := range somePairs() {
		_, stays, _ := groups.Stretch(0, p.workers, p.groups)
		l, e := groups.Moves(p.workers, 1, p.groups)
		behind := stays
		for _, m := range l {
			if m.First != behind || m.To != 0 || m.From == 0 {
				t.Fatalf("Moves(%d, 1, %d): %v behind %d", p.workers, p.groups, m, behind)
			}
			behind = m.Behind
		}
		if behind != p.groups || e != api.OK {
			t.Errorf("Moves(%d, 1, %d) ends at %d, %v", p.workers, p.groups, behind, e)
		}
	}
}

func TestMovesThereAndBack(t *testing.T) {
	r := rand.New(rand.NewSource(7))
	for range 300 {
		from, to, all := randomCounts(r)
		there, _ := groups.Moves(from, to, all)
		back, e := groups.Moves(to, from, all)
		for i := range back {
			back[i].From, back[i].To = back[i].To, back[i].From
		}
		if !slices.Equal(there, back) || e != api.OK {
			t.Fatalf("Moves(%d, %d, %d) is %v, back %v", from, to, all, there, back)
		}
	}
}

func TestMovesAgreeWithWorker(t *testing.T) {
	r := rand.New(rand.NewSource(8))
	for range 100 {
		from, to, all := randomCounts(r)
		moved := map[int][2]int{}
		l, _ := groups.Moves(from, to, all)
		for i, m := range l {
			if m.First >= m.Behind || i > 0 && m.First < l[i-1].Behind {
				t.Fatalf("Moves(%d, %d, %d): %v is empty or does not rise", from, to, all, m)
			}
			for g := m.First; g < m.Behind; g++ {
				moved[g] = [2]int{m.From, m.To}
			}
		}
		for g := range all {
			old, _ := groups.Worker(g, from, all)
			now, _ := groups.Worker(g, to, all)
			if m, ok := moved[g]; ok != (old != now) || ok && m != [2]int{old, now} {
				t.Fatalf("Moves(%d, %d, %d): the group %d goes %v (%t), want from %d to %d", from, to, all, g, m, ok, old, now)
			}
		}
	}
}

func TestDealLosesNothing(t *testing.T) {
	r := rand.New(rand.NewSource(9))
	keys := manyKeys(r)
	keys = append(keys, keys...)
	for range 50 {
		workers, _, all := randomCounts(r)
		l, e := groups.Deal(workers, all, keys...)
		if e != api.OK || len(l) != workers {
			t.Fatalf("Deal(%d, %d): %d lists, %v", workers, all, len(l), e)
		}
		var got []string
		whose := map[int]int{}
		for w, own := range l {
			got = append(got, own...)
			for _, key := range own {
				g, _ := groups.Group(key, all)
				if other, ok := whose[g]; ok && other != w {
					t.Fatalf("Deal(%d, %d): %d and %d have keys of the group %d", workers, all, other, w, g)
				}
				whose[g] = w
				if of, _ := groups.Of(key, workers, all); of != w {
					t.Fatalf("Deal(%d, %d): %d has %q, which is of %d", workers, all, w, key, of)
				}
			}
		}
		want := slices.Clone(keys)
		sort.Strings(want)
		sort.Strings(got)
		if !slices.Equal(got, want) {
			t.Fatalf("Deal(%d, %d): %d keys of %d", workers, all, len(got), len(want))
		}
	}
}

func TestKeysStay(t *testing.T) {
	room := []string{"b", "a", "foobar", "b", "behind", "far behind"}
	keys := room[:4]
	before := slices.Clone(room)
	l, _ := groups.Deal(3, 10, keys...)
	for _, own := range l {
		own = own[:cap(own)]
		for i := range own {
			own[i] = "changed"
		}
	}
	if !slices.Equal(room, before) {
		t.Errorf("the keys are %q now", room)
	}
	l, _ = groups.Deal(3, 10, keys...)
	want := dealOf(3, 10, before[:4])
	for i := range room {
		room[i] = "changed"
	}
	if !sameLists(l, want) {
		t.Errorf("the answer is %q now, it was %q", l, want)
	}
}

// fill writes over all that a list has room for.
func fill[T any](l []T, x T) {
	l = l[:cap(l)]
	for i := range l {
		l[i] = x
	}
}

func TestAnswersShareNothing(t *testing.T) {
	keys := manyKeys(rand.New(rand.NewSource(10)))
	want := dealOf(8, 32, keys)
	one, _ := groups.Deal(8, 32, keys...)
	two, _ := groups.Deal(8, 32, keys...)
	for w := range one {
		fill(one[w], "changed")
		for v := w + 1; v < len(one); v++ {
			if !slices.Equal(one[v], want[v]) {
				t.Fatalf("writing over the list of %d changes that of %d", w, v)
			}
		}
	}
	fill(one, nil)
	if !sameLists(two, want) {
		t.Error("two answers of Deal share memory")
	}
	first, _ := groups.Moves(4, 7, 100)
	second, _ := groups.Moves(4, 7, 100)
	fill(first, api.Move{First: -1})
	if !slices.Equal(second, movesOf(4, 7, 100)) {
		t.Error("two answers of Moves share memory")
	}
}

func TestKeysAreNotKept(t *testing.T) {
	// A key that is a piece of a long text must not hold on to all of it.
	long := strings.Repeat("long text ", 1000)
	key := long[10:20]
	l, _ := groups.Deal(1, 1, key, key)
	if l[0][0] != key || l[0][1] != key {
		t.Fatalf("Deal is %q", l)
	}
	a, b := unsafe.StringData(l[0][0]), unsafe.StringData(l[0][1])
	if a == unsafe.StringData(key) || b == unsafe.StringData(key) || a == b {
		t.Error("the keys of the answer share memory with what was handed in, or with each other")
	}
}
