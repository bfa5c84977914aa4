package window_test

import (
	"slices"
	"testing"

	"keepsake/api"
	"keepsake/window"
)

func TestLaid(t *testing.T) {
	const most = api.MaxSpan
	for _, r := range []struct {
		c    api.Config
		want bool
	}{
		{tumbling(10, 3), true}, {tumbling(10, 0), true}, {tumbling(10, 9), true}, {tumbling(10, 10), false}, {tumbling(10, -1), false},
		{tumbling(1, 0), true}, {tumbling(1, 1), false}, {tumbling(0, 0), false}, {tumbling(-1, 0), false}, {tumbling(0, -1), false}, {tumbling(-5, -7), false},
		{tumbling(most, 0), true}, {tumbling(most, most-1), true}, {tumbling(most, most), false}, {tumbling(most+1, 0), false}, {tumbling(greatest, 0), false}, {tumbling(least, 0), false}, {tumbling(least, least), false},
		{api.Config{Kind: api.Tumbling, Size: 10, Slide: 1}, false}, {api.Config{Kind: api.Tumbling, Size: 10, Slide: 10}, false}, {api.Config{Kind: api.Tumbling, Size: 10, Slide: -1}, false}, {api.Config{Kind: api.Tumbling, Size: 10, Gap: 1}, false}, {api.Config{Kind: api.Tumbling, Size: 10, Gap: -1}, false},

		{sliding(10, 4, 1), true}, {sliding(10, 4, 0), true}, {sliding(10, 4, 3), true}, {sliding(10, 4, 4), false}, {sliding(10, 4, -1), false}, {sliding(10, 10, 9), true}, {sliding(10, 10, 10), false}, {sliding(10, 11, 0), false},
		{sliding(10, 1, 0), true}, {sliding(10, 1, 1), false}, {sliding(10, 0, 0), false}, {sliding(10, -1, 0), false}, {sliding(1, 1, 0), true}, {sliding(0, 1, 0), false}, {sliding(0, 0, 0), false}, {sliding(-1, -1, -1), false},
		{sliding(64, 1, 0), true}, {sliding(65, 1, 0), false}, {sliding(640, 10, 0), true}, {sliding(641, 10, 0), false}, {sliding(641, 11, 10), true},
		{sliding(most, most, most-1), true}, {sliding(most, most, most), false}, {sliding(most, most+1, 0), false}, {sliding(most+1, most, 0), false}, {sliding(most+1, most+1, 0), false},
		{sliding(most, most/64, 0), true}, {sliding(most, most/64-1, 0), false}, {sliding(most-63, most/64-1, 0), false}, {sliding(most-64, most/64-1, 0), true},
		{sliding(greatest, greatest, 0), false}, {sliding(10, greatest, 0), false}, {sliding(10, 1<<58, 0), false}, {sliding(10, 1<<58+1, 0), false}, {sliding(10, least, 0), false}, {sliding(10, -1<<58+1, 0), false}, {sliding(least, least, least), false},
		{api.Config{Kind: api.Sliding, Size: 10, Slide: 4, Gap: 1}, false}, {api.Config{Kind: api.Sliding, Size: 10, Slide: 4, Gap: -1}, false},

		{session(5), true}, {session(1), true}, {session(0), false}, {session(-1), false}, {session(most), true}, {session(most + 1), false}, {session(greatest), false}, {session(least), false},
		{api.Config{Kind: api.Session, Gap: 5, Size: 1}, false}, {api.Config{Kind: api.Session, Gap: 5, Slide: 1}, false}, {api.Config{Kind: api.Session, Gap: 5, Offset: 1}, false},
		{api.Config{Kind: api.Session, Gap: 5, Size: -1}, false}, {api.Config{Kind: api.Session, Gap: 5, Slide: -1}, false}, {api.Config{Kind: api.Session, Gap: 5, Offset: -1}, false},

		{api.Config{}, false}, {api.Config{Size: 10}, false}, {api.Config{Gap: 5}, false}, {api.Config{Kind: 4, Size: 10}, false}, {api.Config{Kind: 4, Gap: 5}, false}, {api.Config{Kind: -1, Size: 10}, false}, {api.Config{Kind: greatest, Size: 10}, false}, {api.Config{Kind: least, Gap: 5}, false},
	} {
		if window.Laid(r.c) != r.want {
			t.Errorf("Laid(%+v) is %t", r.c, !r.want)
		}
		if laidOf(r.c) != r.want {
			t.Errorf("the model says of %+v %t", r.c, !r.want)
		}
	}
}

func TestLaidAtEdges(t *testing.T) {
	numbers := []int64{least, -1, 0, 1, 2, 63, 64, 65, api.MaxSpan/64 - 1, api.MaxSpan / 64, api.MaxSpan - 1, api.MaxSpan, api.MaxSpan + 1, 1 << 58, greatest}
	for kind := api.Kind(-1); kind <= 5; kind++ {
		for _, size := range numbers {
			for _, slide := range numbers {
				for _, offset := range numbers {
					for _, gap := range numbers {
						c := api.Config{Kind: kind, Size: size, Slide: slide, Offset: offset, Gap: gap}
						if want := laidOf(c); window.Laid(c) != want {
							t.Fatalf("Laid(%+v) is %t", c, !want)
						}
					}
				}
			}
		}
	}
}

// The rest of a job is not looked at, be it as it may.
func TestTheRestOfAJob(t *testing.T) {
	wrong := api.Config{Groups: -1, Sources: 1 << 40, Late: least, Early: -5, Discard: true}
	for _, c := range someJobs() {
		other := wrong
		other.Kind, other.Size, other.Slide, other.Offset, other.Gap = c.Kind, c.Size, c.Slide, c.Offset, c.Gap
		if !window.Laid(c) || !window.Laid(other) {
			t.Fatalf("Laid(%+v) is %t, with another rest %t", c, window.Laid(c), window.Laid(other))
		}
		want, _ := window.Falls(c, -3)
		if l, e := window.Falls(other, -3); e != api.OK || !slices.Equal(l, want) {
			t.Fatalf("Falls(%+v, -3) is %v, %v, want %v", other, l, e, want)
		}
		if !window.Has(other, want[0]) {
			t.Fatalf("Has(%+v, %v) is false", other, want[0])
		}
	}
}

func TestFallsExamples(t *testing.T) {
	first, last := int64(api.MinTime), int64(api.MaxTime)
	for _, r := range []struct {
		c    api.Config
		t    int64
		want []api.Span
		e    api.Errno
	}{
		{tumbling(10, 3), 12, spans(3, 13), api.OK}, {tumbling(10, 3), 13, spans(13, 23), api.OK}, {tumbling(10, 3), -7, spans(-7, 3), api.OK},
		{sliding(10, 4, 1), 9, spans(1, 11, 5, 15, 9, 19), api.OK}, {sliding(10, 4, 1), 8, spans(1, 11, 5, 15), api.OK}, {sliding(10, 4, 1), 10, spans(1, 11, 5, 15, 9, 19), api.OK},
		{session(5), last, spans(last, last+5), api.OK}, {session(5), last + 1, nil, api.ErrItem},
		{api.Config{Kind: api.Tumbling, Size: 10, Slide: 1}, 0, nil, api.ErrJob},

		// DOC.md, example 4.
		{sliding(10, 5, 0), 7, spans(0, 10, 5, 15), api.OK}, {sliding(10, 5, 0), -1, spans(-10, 0, -5, 5), api.OK},

		{tumbling(10, 3), -8, spans(-17, -7), api.OK}, {tumbling(1, 0), -1, spans(-1, 0), api.OK}, {tumbling(10, 0), -10, spans(-10, 0), api.OK},
		{sliding(10, 10, 0), 9, spans(0, 10), api.OK}, {sliding(10, 10, 0), 10, spans(10, 20), api.OK}, {sliding(10, 9, 0), 9, spans(0, 10, 9, 19), api.OK}, {sliding(10, 9, 0), 8, spans(0, 10), api.OK}, {sliding(10, 9, 0), 10, spans(9, 19), api.OK},
		{sliding(2, 1, 0), 0, spans(-1, 1, 0, 2), api.OK}, {session(5), -9, spans(-9, -4), api.OK}, {session(1), 0, spans(0, 1), api.OK},

		// The least and the greatest times: 2^62 is a multiple of 2^40, and 4 above one of 10.
		{tumbling(10, 0), first, spans(first-6, first+4), api.OK}, {tumbling(10, 4), first, spans(first-2, first+8), api.OK}, {tumbling(10, 0), last, spans(last-4, last+6), api.OK},
		{tumbling(api.MaxSpan, 1), first, spans(first-api.MaxSpan+1, first+1), api.OK}, {tumbling(api.MaxSpan, 0), last, spans(last, last+api.MaxSpan), api.OK},
		{sliding(4, 2, 1), first, spans(first-3, first+1, first-1, first+3), api.OK}, {sliding(4, 2, 0), last, spans(last-2, last+2, last, last+4), api.OK},
		{session(api.MaxSpan), first, spans(first, first+api.MaxSpan), api.OK}, {session(api.MaxSpan), last, spans(last, last+api.MaxSpan), api.OK},

		{tumbling(10, 3), first - 1, nil, api.ErrItem}, {sliding(10, 4, 1), last + 1, nil, api.ErrItem}, {session(5), least, nil, api.ErrItem}, {tumbling(10, 3), greatest, nil, api.ErrItem},
		{api.Config{}, 0, nil, api.ErrJob}, {api.Config{}, last + 1, nil, api.ErrJob}, {tumbling(10, 10), least, nil, api.ErrJob}, {session(0), 0, nil, api.ErrJob}, {sliding(65, 1, 0), 0, nil, api.ErrJob}, {api.Config{Kind: 4, Size: 10}, 0, nil, api.ErrJob},
	} {
		l, e := window.Falls(r.c, r.t)
		if !slices.Equal(l, r.want) || e != r.e {
			t.Errorf("Falls(%+v, %d) is %v, %v, want %v, %v", r.c, r.t, l, e, r.want, r.e)
		}
		if l := slices.Collect(window.Each(r.c, r.t)); !slices.Equal(l, r.want) {
			t.Errorf("Each(%+v, %d) tells %v, want %v", r.c, r.t, l, r.want)
		}
	}
}

// falls holds Falls and Each against the windows that are found floor by floor.
func falls(t *testing.T, c api.Config, at int64) {
	t.Helper()
	want, wantError := fallsOf(c, at), errorOf(c, at)
	l, e := window.Falls(c, at)
	if !slices.Equal(l, want) || e != wantError {
		t.Fatalf("Falls(%+v, %d) is %v, %v, want %v, %v", c, at, l, e, want, wantError)
	}
	each := window.Each(c, at)
	for range 2 {
		if l := slices.Collect(each); !slices.Equal(l, want) {
			t.Fatalf("Each(%+v, %d) tells %v, want %v", c, at, l, want)
		}
	}
}

func TestFalls(t *testing.T) {
	for _, c := range someJobs() {
		for _, at := range someTimes() {
			falls(t, c, at)
		}
		for _, at := range noTimes() {
			falls(t, c, at)
		}
	}
}

// A job that is wrong is told ahead of a time that is none.
func TestFallsOfWrongJobs(t *testing.T) {
	for _, c := range wrongJobs() {
		for _, at := range append(noTimes(), api.MinTime, -1, 0, 1, api.MaxTime) {
			if l, e := window.Falls(c, at); l != nil || e != api.ErrJob {
				t.Fatalf("Falls(%+v, %d) is %v, %v", c, at, l, e)
			}
			if each := window.Each(c, at); each == nil || len(slices.Collect(each)) != 0 {
				t.Fatalf("Each(%+v, %d) tells something, or is not there", c, at)
			}
		}
	}
}

func TestEachIsLeft(t *testing.T) {
	for _, c := range []api.Config{tumbling(10, 3), sliding(10, 4, 1), sliding(64, 1, 0), session(5)} {
		want := fallsOf(c, 9)
		each := window.Each(c, 9)
		for n := range len(want) + 1 {
			var told []api.Span
			for s := range each {
				told = append(told, s)
				if len(told) >= n {
					break
				}
			}
			if !slices.Equal(told, want[:max(n, 1)]) {
				t.Fatalf("Each(%+v, 9), left behind %d, tells %v", c, n, told)
			}
		}
		if l := slices.Collect(each); !slices.Equal(l, want) {
			t.Fatalf("Each(%+v, 9), gone through again, tells %v", c, l)
		}
	}
}

// A walk within another one of the same iterator goes by itself.
func TestEachWithinEach(t *testing.T) {
	each := window.Each(sliding(10, 4, 1), 9)
	want := spans(1, 11, 5, 15, 9, 19)
	var outer []api.Span
	for s := range each {
		outer = append(outer, s)
		if l := slices.Collect(each); !slices.Equal(l, want) {
			t.Fatalf("the inner walk tells %v", l)
		}
	}
	if !slices.Equal(outer, want) {
		t.Fatalf("the outer walk tells %v", outer)
	}
}

func TestHasExamples(t *testing.T) {
	const most = api.MaxSpan
	first, last := int64(api.MinTime), int64(api.MaxTime)
	for _, r := range []struct {
		c    api.Config
		s    api.Span
		want bool
	}{
		{tumbling(10, 3), span(3, 13), true}, {tumbling(10, 3), span(4, 14), false}, {session(5), span(0, 5), true}, {session(5), span(0, 4), false},

		{tumbling(10, 3), span(-7, 3), true}, {tumbling(10, 3), span(3, 12), false}, {tumbling(10, 3), span(3, 14), false}, {tumbling(10, 3), span(3, 23), false}, {tumbling(10, 3), span(13, 3), false}, {tumbling(10, 3), span(3, 3), false}, {tumbling(10, 3), span(2, 12), false},
		{sliding(10, 4, 1), span(5, 15), true}, {sliding(10, 4, 1), span(6, 16), false}, {sliding(10, 4, 1), span(5, 9), false}, {sliding(10, 4, 1), span(-3, 7), true}, {sliding(10, 4, 1), span(-4, 6), false}, {sliding(10, 4, 1), span(5, 14), false}, {sliding(10, 4, 1), span(5, 16), false},
		{session(5), span(0, 6), true}, {session(5), span(0, 500), true}, {session(5), span(5, 0), false}, {session(5), span(5, 5), false}, {session(5), span(-9, -4), true}, {session(5), span(-9, -5), false},

		// The first and the last window into which some time falls.
		{tumbling(10, 0), span(first-6, first+4), true}, {tumbling(10, 0), span(first-16, first-6), false}, {tumbling(10, 0), span(last-4, last+6), true}, {tumbling(10, 0), span(last+6, last+16), false},
		{tumbling(4, 0), span(first, first+4), true}, {tumbling(4, 0), span(first-4, first), false}, {tumbling(4, 1), span(first-3, first+1), true}, {tumbling(4, 1), span(first-7, first-3), false}, {tumbling(4, 0), span(last, last+4), true}, {tumbling(4, 1), span(last+1, last+5), false}, {tumbling(4, 1), span(last-3, last+1), true},
		{tumbling(most, 1), span(first-most+1, first+1), true}, {tumbling(most, 0), span(first-most, first), false}, {tumbling(most, 0), span(last, last+most), true}, {tumbling(most, 1), span(last+1, last+1+most), false},
		{sliding(4, 2, 1), span(first-3, first+1), true}, {sliding(4, 2, 0), span(first-4, first), false}, {sliding(4, 2, 1), span(first-5, first-1), false}, {sliding(4, 2, 0), span(last, last+4), true}, {sliding(4, 2, 1), span(last+1, last+5), false},
		{session(5), span(first, first+5), true}, {session(5), span(first-1, first+5), false}, {session(5), span(last, last+5), true}, {session(5), span(last, last+6), false}, {session(5), span(last+1, last+6), false}, {session(5), span(first, last+5), true}, {session(5), span(first, last+6), false},
		{session(most), span(last, last+most), true}, {session(most), span(first, last+most), true}, {session(most), span(first, last+most+1), false}, {session(most), span(first, first+most-1), false},

		// Spans that are longer than the numbers go.
		{tumbling(10, 3), span(least, greatest), false}, {tumbling(1, 0), span(greatest, least), false}, {tumbling(2, 0), span(greatest-1, least), false}, {sliding(10, 4, 1), span(least, greatest), false}, {session(5), span(least, greatest), false}, {session(5), span(0, greatest), false}, {session(5), span(first, least), false}, {session(5), span(0, least), false}, {session(5), span(0, least+4), false}, {session(5), span(greatest, greatest), false}, {session(5), span(greatest-2, least+2), false},

		{api.Config{}, span(0, 0), false}, {api.Config{Kind: 4, Size: 10}, span(0, 10), false}, {tumbling(0, 0), span(0, 0), false}, {tumbling(10, 10), span(10, 20), false}, {sliding(65, 1, 0), span(0, 65), false}, {sliding(10, 0, 0), span(0, 10), false}, {session(0), span(0, 5), false}, {session(most + 1), span(0, most+1), false}, {api.Config{Kind: api.Tumbling, Size: 10, Slide: 1}, span(0, 10), false},
	} {
		if window.Has(r.c, r.s) != r.want {
			t.Errorf("Has(%+v, %v) is %t", r.c, r.s, !r.want)
		}
		if hasOf(r.c, r.s) != r.want {
			t.Errorf("the model says of %+v and %v %t", r.c, r.s, !r.want)
		}
	}
}

func TestHas(t *testing.T) {
	for _, c := range someJobs() {
		length := max(c.Size, c.Gap)
		var starts []int64
		for d := int64(-20); d <= 20; d++ {
			starts = append(starts, d, api.MinTime+d, api.MaxTime+d, api.MinTime-length+d, api.MaxTime-length+d)
		}
		for _, start := range append(starts, edges()...) {
			for d := int64(-2); d <= 2; d++ {
				// The sum may go round; then it is an end as good as any.
				for _, s := range []api.Span{span(start, start+length+d), span(start, api.MaxTime+length+d), span(start, start+d)} {
					if want := hasOf(c, s); window.Has(c, s) != want {
						t.Fatalf("Has(%+v, %v) is %t", c, s, !want)
					}
				}
			}
		}
	}
}

// All spans between two numbers: the job has just those into which some time falls.
func TestHasIsWhatTimesFallInto(t *testing.T) {
	for _, c := range someJobs() {
		if c.Kind == api.Session || c.Size > 8 {
			continue
		}
		for _, from := range []int64{-12, api.MinTime - 12, api.MaxTime - 12} {
			fallen := map[api.Span]int{}
			for at := from - 20; at <= from+44; at++ {
				for s := range window.Each(c, at) {
					fallen[s]++
				}
			}
			for _, s := range smallSpans(from, from+24) {
				if want := fallen[s] > 0; window.Has(c, s) != want {
					t.Fatalf("Has(%+v, %v) is %t", c, s, !want)
				}
			}
		}
	}
}
