package window_test

import (
	"math/rand"
	"slices"
	"testing"

	"keepsake/api"
	"keepsake/window"
)

// follows looks whether what P7.6 says of one time is so.
func follows(t *testing.T, c api.Config, at int64) {
	t.Helper()
	l, e := window.Falls(c, at)
	if e != api.OK || !slices.IsSortedFunc(l, window.Compare) {
		t.Fatalf("Falls(%+v, %d) is %v, %v", c, at, l, e)
	}
	for i, s := range l {
		if at < s.Start || at >= s.End || !window.Has(c, s) || i > 0 && s == l[i-1] {
			t.Fatalf("Falls(%+v, %d) is %v: %v does not hold the time, the job has it not, or it is there twice", c, at, l, s)
		}
	}
	lower, upper := 1, 1
	if c.Kind == api.Sliding {
		lower, upper = int(c.Size/c.Slide), int((c.Size+c.Slide-1)/c.Slide)
	}
	if len(l) < lower || len(l) > upper || len(l) > api.MaxSlices {
		t.Fatalf("Falls(%+v, %d) are %d windows, want from %d to %d", c, at, len(l), lower, upper)
	}
}

// rise looks whether of two times the greater one's first window begins no earlier.
func rise(t *testing.T, c api.Config, a, b int64) {
	t.Helper()
	one, _ := window.Falls(c, min(a, b))
	two, _ := window.Falls(c, max(a, b))
	if two[0].Start < one[0].Start {
		t.Fatalf("%+v: %d falls into %v first, %d into %v", c, min(a, b), one[0], max(a, b), two[0])
	}
}

func TestWhatFollows(t *testing.T) {
	for _, c := range someJobs() {
		times := someTimes()
		slices.Sort(times)
		for i, at := range times {
			follows(t, c, at)
			rise(t, c, times[max(i-1, 0)], at)
		}
	}
}

func TestWhatFollowsOfAny(t *testing.T) {
	r := rand.New(rand.NewSource(3))
	for range 20000 {
		c, a, b := anyJob(r), anyTime(r), anyTime(r)
		falls(t, c, a)
		follows(t, c, a)
		rise(t, c, a, b)
		rise(t, c, a, min(a+r.Int63n(2*api.MaxSpan), api.MaxTime))
	}
}

// Both numbers of windows that a slide allows do come.
func TestRoundedUpAndDown(t *testing.T) {
	for _, c := range []api.Config{sliding(10, 4, 1), sliding(10, 9, 0), sliding(639, 10, 3), sliding(api.MaxSpan, api.MaxSpan-1, 0)} {
		first := c.Offset + 10*c.Slide
		up, _ := window.Falls(c, first)
		down, _ := window.Falls(c, first-1)
		if int64(len(up)) != c.Size/c.Slide+1 || int64(len(down)) != c.Size/c.Slide {
			t.Errorf("%+v: %d windows at a start, %d just ahead of it", c, len(up), len(down))
		}
	}
	for _, at := range someTimes() {
		if l, _ := window.Falls(sliding(640, 10, 9), at); len(l) != api.MaxSlices {
			t.Errorf("%d falls into %d windows", at, len(l))
		}
	}
}

// Of a tumbling job's windows each time is in one alone, and those beside each other do not overlap.
func TestTumblingWindowsLieApart(t *testing.T) {
	for _, c := range someJobs() {
		if c.Kind != api.Tumbling {
			continue
		}
		var all []api.Span
		for _, at := range someTimes() {
			l, _ := window.Falls(c, at)
			for _, s := range l {
				all = append(all, s)
				if next := span(s.End, s.End+c.Size); at+c.Size <= api.MaxTime && !window.Has(c, next) || window.Overlap(s, next) {
					t.Fatalf("%+v: %v behind %v is no window of it, or overlaps it", c, next, s)
				}
			}
		}
		for _, a := range all {
			for _, b := range all {
				if (a == b) != window.Overlap(a, b) {
					t.Fatalf("%+v: %v and %v: Overlap is %t", c, a, b, window.Overlap(a, b))
				}
			}
		}
	}
}

func TestOverIsDueToo(t *testing.T) {
	r := rand.New(rand.NewSource(4))
	for range 100000 {
		s, late, w := span(anyNumber(r), anyNumber(r)), anyNumber(r), anyNumber(r)
		over := window.Over(s, late, w)
		if over != (sum(s.End, late).Cmp(whole(w)) <= 0) {
			t.Fatalf("Over(%v, %d, %d) is %t", s, late, w, over)
		}
		if late >= 0 && over && !window.Due(s, w) {
			t.Fatalf("Over(%v, %d, %d), and not due", s, late, w)
		}
	}
}

// A session that is joined out of windows that sessions have is one that a session may have.
func TestJoinedSessionsAreHad(t *testing.T) {
	r := rand.New(rand.NewSource(5))
	for range 20000 {
		c := session(1 + r.Int63n(1<<(1+r.Intn(40))))
		var l []api.Span
		for range 1 + r.Intn(5) {
			one, _ := window.Falls(c, anyTime(r))
			l = append(l, one...)
		}
		if s, ok := window.Join(l...); !ok || !window.Has(c, s) {
			t.Fatalf("%+v: Join(%v) is %v, %t, and the job has it not", c, l, s, ok)
		}
	}
}

func TestAnswersShareNothing(t *testing.T) {
	for _, c := range []api.Config{tumbling(10, 3), sliding(10, 4, 1), sliding(640, 10, 9), session(5)} {
		one, _ := window.Falls(c, 9)
		two, _ := window.Falls(c, 9)
		room := one[:cap(one)]
		for i := range room {
			room[i] = span(-1, -1)
		}
		if three, _ := window.Falls(c, 9); !slices.Equal(two, fallsOf(c, 9)) || !slices.Equal(three, two) {
			t.Errorf("Falls(%+v, 9): writing over one answer makes another one %v, a later one %v", c, two, three)
		}
	}
}

func FuzzJobs(f *testing.F) {
	f.Add(1, int64(10), int64(0), int64(3), int64(0), int64(-8), int64(3), int64(13))
	f.Add(2, int64(10), int64(4), int64(1), int64(0), int64(9), int64(5), int64(15))
	f.Add(3, int64(0), int64(0), int64(0), int64(5), int64(api.MaxTime), int64(0), int64(5))
	f.Add(2, int64(api.MaxSpan), int64(1<<58), int64(0), int64(0), int64(api.MinTime), int64(least), int64(greatest))
	f.Fuzz(func(t *testing.T, kind int, size, slide, offset, gap, at, start, end int64) {
		c := api.Config{Kind: api.Kind(kind), Size: size, Slide: slide, Offset: offset, Gap: gap}
		if want := laidOf(c); window.Laid(c) != want {
			t.Fatalf("Laid(%+v) is %t", c, !want)
		}
		falls(t, c, at)
		if errorOf(c, at) == api.OK {
			follows(t, c, at)
		}
		if s := span(start, end); window.Has(c, s) != hasOf(c, s) {
			t.Fatalf("Has(%+v, %v) is %t", c, s, window.Has(c, s))
		}
	})
}
