package groups_test

import (
	"math/rand"
	"slices"
	"strings"
	"testing"

	"keepsake/api"
	"keepsake/groups"
)

// owners tells each group's worker, as the chapter words a stretch: the groups from w times G over P on up to below (w + 1) times G over P, both rounded down.
func owners(workers, all int) []int {
	l := make([]int, all)
	for w := range workers {
		first := int(int64(w) * int64(all) / int64(workers))
		behind := int((int64(w) + 1) * int64(all) / int64(workers))
		for g := first; g < behind; g++ {
			l[g] = w
		}
	}
	return l
}

// spans are the first groups and those behind the last ones of runs of one worker in l.
func spans(l []int) [][2]int {
	var s [][2]int
	for g := range l {
		if g == 0 || l[g] != l[g-1] {
			s = append(s, [2]int{g, g})
		}
		s[len(s)-1][1] = g + 1
	}
	return s
}

// pair is a number of workers with a number of groups.
type pair struct{ workers, groups int }

// somePairs are all pairs up to 24 groups, and those at the edges of great ones.
func somePairs() []pair {
	var l []pair
	for g := 1; g <= 24; g++ {
		for p := 1; p <= g; p++ {
			l = append(l, pair{p, g})
		}
	}
	for _, g := range []int{255, 1000, api.MaxGroups - 1, api.MaxGroups} {
		for _, p := range []int{1, 2, 3, 7, g / 2, g/2 + 1, g - 1, g} {
			l = append(l, pair{p, g})
		}
	}
	r := rand.New(rand.NewSource(3))
	for range 40 {
		g := 1 + r.Intn(2000)
		l = append(l, pair{1 + r.Intn(g), g})
	}
	return l
}

// noPairs are pairs of which one number may not be.
func noPairs() []pair {
	l := []pair{{0, 10}, {11, 10}, {1, 0}, {0, 0}, {2, 1}, {api.MaxGroups + 1, api.MaxGroups}, {api.MaxGroups + 1, api.MaxGroups + 1}, {-1, -1}, {1, -3}}
	for _, n := range noNumbers() {
		l = append(l, pair{n, 10}, pair{1, n}, pair{n, n}, pair{n, api.MaxGroups})
	}
	return l
}

func TestStretchExamples(t *testing.T) {
	for _, x := range []struct {
		worker, workers, groups int
		first, behind           int
		e                       api.Errno
	}{
		{0, 3, 10, 0, 3, api.OK},
		{1, 3, 10, 3, 6, api.OK},
		{2, 3, 10, 6, 10, api.OK},
		{3, 3, 10, 0, 0, api.ErrArg},
		{0, 11, 10, 0, 0, api.ErrArg},
		{0, 1, 1, 0, 1, api.OK},
		{0, 1, api.MaxGroups, 0, api.MaxGroups, api.OK},
		{api.MaxGroups - 1, api.MaxGroups, api.MaxGroups, api.MaxGroups - 1, api.MaxGroups, api.OK},
	} {
		first, behind, e := groups.Stretch(x.worker, x.workers, x.groups)
		if first != x.first || behind != x.behind || e != x.e {
			t.Errorf("Stretch(%d, %d, %d) is %d, %d, %v", x.worker, x.workers, x.groups, first, behind, e)
		}
	}
}

func TestWorkerExamples(t *testing.T) {
	for _, x := range []struct {
		group, want int
		e           api.Errno
	}{{5, 1, api.OK}, {6, 2, api.OK}, {10, 0, api.ErrArg}, {9, 2, api.OK}, {0, 0, api.OK}, {-1, 0, api.ErrArg}} {
		if w, e := groups.Worker(x.group, 3, 10); w != x.want || e != x.e {
			t.Errorf("Worker(%d, 3, 10) is %d, %v", x.group, w, e)
		}
	}
}

func TestStretchAndWorker(t *testing.T) {
	for _, p := range somePairs() {
		own := owners(p.workers, p.groups)
		for w, want := range spans(own) {
			first, behind, e := groups.Stretch(w, p.workers, p.groups)
			if [2]int{first, behind} != want || e != api.OK {
				t.Fatalf("Stretch(%d, %d, %d) is %d, %d, %v, want %v", w, p.workers, p.groups, first, behind, e, want)
			}
		}
		for g, want := range own {
			if w, e := groups.Worker(g, p.workers, p.groups); w != want || e != api.OK {
				t.Fatalf("Worker(%d, %d, %d) is %d, %v, want %d", g, p.workers, p.groups, w, e, want)
			}
		}
	}
}

func TestOneWorkerOrGroupTooFar(t *testing.T) {
	for _, p := range somePairs() {
		for _, n := range append(noNumbers(), p.workers) {
			if first, behind, e := groups.Stretch(n, p.workers, p.groups); first != 0 || behind != 0 || e != api.ErrArg {
				t.Fatalf("Stretch(%d, %d, %d) is %d, %d, %v", n, p.workers, p.groups, first, behind, e)
			}
		}
		for _, n := range append(noNumbers(), p.groups) {
			if w, e := groups.Worker(n, p.workers, p.groups); w != 0 || e != api.ErrArg {
				t.Fatalf("Worker(%d, %d, %d) is %d, %v", n, p.workers, p.groups, w, e)
			}
		}
	}
}

func TestNoSuchNumbers(t *testing.T) {
	for _, p := range noPairs() {
		for _, n := range append(noNumbers(), 0) {
			if first, behind, e := groups.Stretch(n, p.workers, p.groups); first != 0 || behind != 0 || e != api.ErrArg {
				t.Errorf("Stretch(%d, %d, %d) is %d, %d, %v", n, p.workers, p.groups, first, behind, e)
			}
			if w, e := groups.Worker(n, p.workers, p.groups); w != 0 || e != api.ErrArg {
				t.Errorf("Worker(%d, %d, %d) is %d, %v", n, p.workers, p.groups, w, e)
			}
		}
		for _, key := range []string{"", "a", longKey()} {
			if w, e := groups.Of(key, p.workers, p.groups); w != 0 || e != api.ErrArg {
				t.Errorf("Of %d bytes, %d, %d: %d, %v", len(key), p.workers, p.groups, w, e)
			}
		}
		for w, s := range groups.Stretches(p.workers, p.groups) {
			t.Errorf("Stretches(%d, %d) tells %d, %v", p.workers, p.groups, w, s)
			break
		}
	}
}

func TestOf(t *testing.T) {
	r := rand.New(rand.NewSource(4))
	keys := manyKeys(r)
	for _, p := range somePairs() {
		own := owners(p.workers, p.groups)
		for range 20 {
			key := keys[r.Intn(len(keys))]
			want := own[int64(hashOf(key))%int64(p.groups)]
			if w, e := groups.Of(key, p.workers, p.groups); w != want || e != api.OK {
				t.Errorf("Of(%q, %d, %d) is %d, %v, want %d", key, p.workers, p.groups, w, e, want)
			}
		}
		if w, e := groups.Of(strings.Repeat("k", api.MaxKey), p.workers, p.groups); e != api.OK || w < 0 || w >= p.workers {
			t.Errorf("Of a key of MaxKey bytes, %d, %d: %d, %v", p.workers, p.groups, w, e)
		}
		if w, e := groups.Of(longKey(), p.workers, p.groups); w != 0 || e != api.ErrLong {
			t.Errorf("Of a key too long, %d, %d: %d, %v", p.workers, p.groups, w, e)
		}
	}
}

// gather goes over all that each tells, and holds the workers' numbers against 0, 1 ..
func gather(t *testing.T, each func(func(int, [2]int) bool)) [][2]int {
	t.Helper()
	var l [][2]int
	for w, s := range each {
		if w != len(l) {
			t.Errorf("the worker %d comes as number %d", w, len(l))
		}
		l = append(l, s)
	}
	return l
}

func TestStretches(t *testing.T) {
	for _, p := range somePairs() {
		want := spans(owners(p.workers, p.groups))
		each := groups.Stretches(p.workers, p.groups)
		for range 2 {
			if got := gather(t, each); !slices.Equal(got, want) {
				t.Fatalf("Stretches(%d, %d) tells %v, want %v", p.workers, p.groups, got, want)
			}
		}
	}
}

func TestStretchesLeftEarly(t *testing.T) {
	const workers, all = 7, 20
	want := spans(owners(workers, all))
	each := groups.Stretches(workers, all)
	for last := range workers {
		var got [][2]int
		for w, s := range each {
			got = append(got, s)
			if w == last {
				break
			}
		}
		if !slices.Equal(got, want[:last+1]) {
			t.Errorf("left behind %d: %v", last, got)
		}
	}
	if got := gather(t, each); !slices.Equal(got, want) {
		t.Errorf("gone over again: %v, want %v", got, want)
	}
}

func TestStretchesWithinThemselves(t *testing.T) {
	each := groups.Stretches(5, 13)
	want := spans(owners(5, 13))
	n := 0
	for w, s := range each {
		if s != want[w] {
			t.Errorf("the worker %d has %v, want %v", w, s, want[w])
		}
		s[0], s[1] = -1, -1
		if got := gather(t, each); !slices.Equal(got, want) {
			t.Errorf("within: %v, want %v", got, want)
		}
		n++
	}
	if n != 5 {
		t.Errorf("%d workers", n)
	}
}

func TestStretchesOfNone(t *testing.T) {
	for _, p := range noPairs() {
		each := groups.Stretches(p.workers, p.groups)
		if each == nil {
			t.Fatalf("Stretches(%d, %d) is not there", p.workers, p.groups)
		}
		if got := gather(t, each); len(got) != 0 {
			t.Errorf("Stretches(%d, %d) tells %d stretches", p.workers, p.groups, len(got))
		}
	}
}
