package groups_test

import (
	"math/rand"
	"slices"
	"strings"
	"testing"

	"keepsake/api"
	"keepsake/groups"
)

// movesOf goes from group to group: the fewest stretches are those that end where the worker of either side is another one.
func movesOf(from, to, all int) []api.Move {
	var l []api.Move
	old, now := owners(from, all), owners(to, all)
	for g := range all {
		if old[g] == now[g] {
			continue
		}
		if n := len(l) - 1; n >= 0 && l[n].Behind == g && l[n].From == old[g] && l[n].To == now[g] {
			l[n].Behind++
			continue
		}
		l = append(l, api.Move{First: g, Behind: g + 1, From: old[g], To: now[g]})
	}
	return l
}

func TestMovesExamples(t *testing.T) {
	for _, x := range []struct {
		from, to, groups int
		want             []api.Move
	}{
		{2, 3, 10, []api.Move{{First: 3, Behind: 5, From: 0, To: 1}, {First: 6, Behind: 10, From: 1, To: 2}}},
		{3, 2, 10, []api.Move{{First: 3, Behind: 5, From: 1, To: 0}, {First: 6, Behind: 10, From: 2, To: 1}}},
		{3, 3, 10, nil},
		{2, 1, 4, []api.Move{{First: 2, Behind: 4, From: 1, To: 0}}},
		{1, 2, 4, []api.Move{{First: 2, Behind: 4, From: 0, To: 1}}},
		{1, 1, 1, nil},
		{1, 4, 4, []api.Move{{First: 1, Behind: 2, To: 1}, {First: 2, Behind: 3, To: 2}, {First: 3, Behind: 4, To: 3}}},
	} {
		if l, e := groups.Moves(x.from, x.to, x.groups); !slices.Equal(l, x.want) || e != api.OK {
			t.Errorf("Moves(%d, %d, %d) is %v, %v, want %v", x.from, x.to, x.groups, l, e, x.want)
		}
	}
}

func TestMovesOfAllSmall(t *testing.T) {
	for all := 1; all <= 20; all++ {
		for from := 1; from <= all; from++ {
			for to := 1; to <= all; to++ {
				if l, e := groups.Moves(from, to, all); !slices.Equal(l, movesOf(from, to, all)) || e != api.OK {
					t.Fatalf("Moves(%d, %d, %d) is %v, %v, want %v", from, to, all, l, e, movesOf(from, to, all))
				}
			}
		}
	}
}

func TestMovesOfGreat(t *testing.T) {
	r := rand.New(rand.NewSource(5))
	for _, all := range []int{100, 1001, api.MaxGroups - 1, api.MaxGroups} {
		counts := []int{1, 2, 3, all / 2, all - 1, all, 1 + r.Intn(all), 1 + r.Intn(all)}
		for _, from := range counts {
			for _, to := range counts {
				if l, e := groups.Moves(from, to, all); !slices.Equal(l, movesOf(from, to, all)) || e != api.OK {
					t.Fatalf("Moves(%d, %d, %d) is %d moves, %v, want %d", from, to, all, len(l), e, len(movesOf(from, to, all)))
				}
			}
		}
	}
}

func TestMovesRefuses(t *testing.T) {
	refused := func(from, to, all int) {
		t.Helper()
		if l, e := groups.Moves(from, to, all); l != nil || e != api.ErrArg {
			t.Errorf("Moves(%d, %d, %d) is %v, %v", from, to, all, l, e)
		}
	}
	for _, p := range noPairs() {
		refused(p.workers, 1, p.groups)
		refused(1, p.workers, p.groups)
		refused(p.workers, p.workers, p.groups)
	}
	for _, all := range []int{1, 2, 10, api.MaxGroups} {
		for _, n := range append(noNumbers(), 0, all+1) {
			refused(n, all, all)
			refused(all, n, all)
		}
	}
}

// dealOf gives each worker its keys, worker by worker.
func dealOf(workers, all int, keys []string) [][]string {
	own := owners(workers, all)
	l := make([][]string, workers)
	for w := range l {
		for _, key := range keys {
			if own[int64(hashOf(key))%int64(all)] == w {
				l[w] = append(l[w], key)
			}
		}
	}
	return l
}

func sameLists(a, b [][]string) bool {
	return slices.EqualFunc(a, b, func(x, y []string) bool { return slices.Equal(x, y) })
}

func TestDealExamples(t *testing.T) {
	if l, e := groups.Deal(2, 10, "a", "foobar", "a"); e != api.OK || !sameLists(l, [][]string{{"a", "foobar", "a"}, nil}) {
		t.Errorf("Deal is %q, %v", l, e)
	}
	for _, p := range []pair{{1, 1}, {3, 10}, {10, 10}, {1, api.MaxGroups}, {api.MaxGroups, api.MaxGroups}} {
		if l, e := groups.Deal(p.workers, p.groups); e != api.OK || !sameLists(l, make([][]string, p.workers)) {
			t.Errorf("Deal(%d, %d) of no keys is %d lists, %v", p.workers, p.groups, len(l), e)
		}
		if l, e := groups.Deal(p.workers, p.groups, []string{}...); e != api.OK || len(l) != p.workers {
			t.Errorf("Deal(%d, %d) of an empty list is %d lists, %v", p.workers, p.groups, len(l), e)
		}
	}
	if l, e := groups.Deal(1, 1, ""); e != api.OK || !sameLists(l, [][]string{{""}}) {
		t.Errorf("Deal of a key of no bytes is %q, %v", l, e)
	}
	if l, e := groups.Deal(10, 10, "", ""); e != api.OK || !sameLists(l, dealOf(10, 10, []string{"", ""})) {
		t.Errorf("Deal of two keys of no bytes is %q, %v", l, e)
	}
}

func TestDeal(t *testing.T) {
	r := rand.New(rand.NewSource(6))
	some := manyKeys(r)
	for range 200 {
		all := 1 + r.Intn(60)
		workers := 1 + r.Intn(all)
		var keys []string
		for range r.Intn(60) {
			// Out of few, so that many of them come twice.
			keys = append(keys, some[r.Intn(40)])
		}
		want := dealOf(workers, all, keys)
		if l, e := groups.Deal(workers, all, keys...); !sameLists(l, want) || e != api.OK {
			t.Fatalf("Deal(%d, %d, %q) is %q, %v, want %q", workers, all, keys, l, e, want)
		}
	}
	if l, e := groups.Deal(64, api.MaxGroups, some...); !sameLists(l, dealOf(64, api.MaxGroups, some)) || e != api.OK {
		t.Errorf("Deal of %d keys is wrong: %v", len(some), e)
	}
}

func TestDealRefuses(t *testing.T) {
	full := strings.Repeat("k", api.MaxKey)
	for _, p := range noPairs() {
		for _, keys := range [][]string{nil, {"a"}, {longKey()}, {"a", longKey(), full}} {
			if l, e := groups.Deal(p.workers, p.groups, keys...); l != nil || e != api.ErrArg {
				t.Errorf("Deal(%d, %d) of %d keys is %q, %v", p.workers, p.groups, len(keys), l, e)
			}
		}
	}
	for _, p := range []pair{{1, 1}, {3, 10}, {api.MaxGroups, api.MaxGroups}} {
		for _, keys := range [][]string{{longKey()}, {longKey(), "a"}, {"a", full, longKey()}, {"a", longKey(), "b"}} {
			if l, e := groups.Deal(p.workers, p.groups, keys...); l != nil || e != api.ErrLong {
				t.Errorf("Deal(%d, %d) of %d keys is %q, %v", p.workers, p.groups, len(keys), l, e)
			}
		}
		if l, e := groups.Deal(p.workers, p.groups, full, "", full); !sameLists(l, dealOf(p.workers, p.groups, []string{full, "", full})) || e != api.OK {
			t.Errorf("Deal(%d, %d) of keys of MaxKey bytes: %v", p.workers, p.groups, e)
		}
	}
}
