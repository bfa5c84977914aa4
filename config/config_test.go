package config_test

import (
	"math/rand"
	"testing"

	"keepsake/api"
	"keepsake/config"
)

// wrong holds Wrong and Check against the first wrong field, 0 if there is none.
func wrong(t *testing.T, c api.Config, want api.Field) {
	t.Helper()
	e := api.OK
	if want != 0 {
		e = api.ErrJob
	}
	if f, got := config.Wrong(c); f != want || got != e {
		t.Errorf("Wrong(%+v) is %d, %d, want %d, %d", c, f, got, want, e)
	}
	if got := config.Check(c); got != e {
		t.Errorf("Check(%+v) is %d, want %d", c, got, e)
	}
	if f := wrongOf(c); f != want || mayBeOf(c) != (want == 0) {
		t.Errorf("the model says of %+v %d, %t", c, f, mayBeOf(c))
	}
}

func TestWrongExamples(t *testing.T) {
	slides := api.Config{Groups: 4, Sources: 1, Kind: api.Sliding, Size: 64, Slide: 1, Late: 5}
	grows := api.Config{Groups: 4, Sources: 1, Kind: api.Session, Gap: 7}
	for _, r := range []struct {
		c    api.Config
		want api.Field
	}{
		{example(), 0},
		{with(example(), api.FieldSlide, 1), api.FieldSlide},
		{with(example(), api.FieldOffset, 10), api.FieldOffset},
		{with(with(example(), api.FieldGroups, 0), api.FieldEarly, -1), api.FieldGroups},
		{with(with(example(), api.FieldKind, 9), api.FieldSize, 0), api.FieldKind},
		{slides, 0},
		{with(slides, api.FieldSize, 65), api.FieldSlide},
		{with(slides, api.FieldOffset, 1), api.FieldOffset},
		{grows, 0},
		{with(grows, api.FieldSize, 7), api.FieldSize},
		{api.Config{}, api.FieldGroups},
	} {
		wrong(t, r.c, r.want)
	}
}

// bounded is a field, and the least and the greatest value that it may have in a job that may be.
type bounded struct {
	field       api.Field
	first, last int64
}

// Each field by itself: at its least and greatest value, one below, one above, and far away.
func TestEachFieldAtItsBounds(t *testing.T) {
	all := []bounded{{api.FieldGroups, 1, 32768}, {api.FieldSources, 1, 64}, {api.FieldLate, 0, 1 << 40}, {api.FieldEarly, 0, 2147483647}}
	for _, r := range []struct {
		c      api.Config
		bounds []bounded
	}{
		// Where a field hangs on another one, that one is such as leaves it free.
		{api.Config{Groups: 1, Sources: 1, Kind: api.Tumbling, Size: 10}, []bounded{{api.FieldSize, 1, 1 << 40}, {api.FieldSlide, 0, 0}, {api.FieldOffset, 0, 9}, {api.FieldGap, 0, 0}}},
		{api.Config{Groups: 1, Sources: 1, Kind: api.Tumbling, Size: 1 << 40}, []bounded{{api.FieldOffset, 0, 1<<40 - 1}}},
		{api.Config{Groups: 1, Sources: 1, Kind: api.Tumbling, Size: 1}, []bounded{{api.FieldOffset, 0, 0}}},
		{api.Config{Groups: 1, Sources: 1, Kind: api.Sliding, Size: 10, Slide: 10}, []bounded{{api.FieldSlide, 1, 10}, {api.FieldOffset, 0, 9}, {api.FieldGap, 0, 0}}},
		{api.Config{Groups: 1, Sources: 1, Kind: api.Sliding, Size: 1, Slide: 1}, []bounded{{api.FieldSize, 1, 64}, {api.FieldSlide, 1, 1}, {api.FieldOffset, 0, 0}}},
		{api.Config{Groups: 1, Sources: 1, Kind: api.Sliding, Size: 640, Slide: 10}, []bounded{{api.FieldSlide, 10, 640}, {api.FieldSize, 10, 640}}},
		{api.Config{Groups: 1, Sources: 1, Kind: api.Sliding, Size: 641, Slide: 11}, []bounded{{api.FieldSlide, 11, 641}, {api.FieldSize, 11, 704}, {api.FieldOffset, 0, 10}}},
		{api.Config{Groups: 1, Sources: 1, Kind: api.Sliding, Size: 1 << 40, Slide: 1 << 40}, []bounded{{api.FieldSlide, 1 << 34, 1 << 40}, {api.FieldSize, 1 << 40, 1 << 40}, {api.FieldOffset, 0, 1<<40 - 1}}},
		{api.Config{Groups: 1, Sources: 1, Kind: api.Sliding, Size: 1 << 40, Slide: 1 << 34}, []bounded{{api.FieldSize, 1 << 34, 1 << 40}, {api.FieldOffset, 0, 1<<34 - 1}}},
		{api.Config{Groups: 1, Sources: 1, Kind: api.Session, Gap: 5}, []bounded{{api.FieldSize, 0, 0}, {api.FieldSlide, 0, 0}, {api.FieldOffset, 0, 0}, {api.FieldGap, 1, 1 << 40}}},
	} {
		wrong(t, r.c, 0)
		for _, b := range append(r.bounds, all...) {
			wrong(t, with(r.c, b.field, b.first), 0)
			wrong(t, with(r.c, b.field, b.last), 0)
			wrong(t, with(r.c, b.field, (b.first+b.last)/2), 0)
			for _, x := range append(edges(), b.first-1, b.last+1) {
				c := with(r.c, b.field, x)
				if x >= b.first && x <= b.last {
					wrong(t, c, 0)
					continue
				}
				f, e := config.Wrong(c)
				if e != api.ErrJob || config.Check(c) != api.ErrJob {
					t.Errorf("Wrong(%+v) is %d, %d", c, f, e)
				}
				// A Size that may be, but not with that Slide, is the Slide's fault.
				if slide := b.field == api.FieldSize && c.Kind == api.Sliding && within(x, 1, 1<<40); !slide && f != b.field || slide && f != api.FieldSlide {
					t.Errorf("Wrong(%+v) is %d, want %d", c, f, b.field)
				}
			}
		}
		// Discard hangs on nothing.
		r.c.Discard = true
		wrong(t, r.c, 0)
	}
}

// Behind a Kind that is none no field is looked at; ahead of it they are.
func TestNoKind(t *testing.T) {
	for _, kind := range []int64{0, 4, -1, 9, 257, 1 << 32, 1<<32 + 1, least, greatest} {
		for _, c := range kinds() {
			c = with(c, api.FieldKind, kind)
			wrong(t, c, api.FieldKind)
			for f := api.FieldSize; f <= api.FieldEarly; f++ {
				for _, x := range []int64{least, -1, 0, 1, greatest} {
					wrong(t, with(c, f, x), api.FieldKind)
				}
			}
			wrong(t, with(c, api.FieldGroups, 0), api.FieldGroups)
			wrong(t, with(c, api.FieldSources, 65), api.FieldSources)
		}
	}
}

// Two fields wrong at once: the first of them is told.
func TestTwoWrong(t *testing.T) {
	for _, c := range kinds() {
		for f := api.FieldGroups; f <= api.FieldEarly; f++ {
			for g := f + 1; g <= api.FieldEarly; g++ {
				for _, x := range []int64{least, -1, greatest} {
					for _, y := range []int64{least, -1, greatest} {
						wrong(t, with(with(c, f, x), g, y), f)
					}
				}
			}
		}
	}
}

// A field that hangs on a wrong one is not told instead of it.
func TestWrongOnesThatOthersHangOn(t *testing.T) {
	for _, x := range edges() {
		for _, y := range edges() {
			for _, z := range edges() {
				for kind := api.Kind(0); kind <= 4; kind++ {
					c := api.Config{Groups: 4, Sources: 1, Kind: kind, Size: x, Slide: y, Offset: z}
					f, e := config.Wrong(c)
					if want := wrongOf(c); f != want || (e == api.OK) != mayBeOf(c) {
						t.Fatalf("Wrong(%+v) is %d, %d, want %d", c, f, e, want)
					}
				}
			}
		}
	}
}

func TestSizeAndSlide(t *testing.T) {
	for size := int64(-2); size <= 300; size++ {
		for slide := int64(-2); slide <= 302; slide++ {
			c := api.Config{Groups: 4, Sources: 1, Kind: api.Sliding, Size: size, Slide: slide}
			want := api.Field(0)
			if size < 1 {
				want = api.FieldSize
			} else if slide < 1 || slide > size || size > 64*slide {
				want = api.FieldSlide
			}
			if f, _ := config.Wrong(c); f != want {
				t.Fatalf("Wrong with Size %d and Slide %d is %d, want %d", size, slide, f, want)
			}
		}
	}
}

func TestWrongOfAny(t *testing.T) {
	r := rand.New(rand.NewSource(1))
	may := 0
	for range 200000 {
		c := anyJob(r)
		if wrong(t, c, wrongOf(c)); t.Failed() {
			t.FailNow()
		}
		if mayBeOf(c) {
			may++
		}
	}
	if may < 20000 {
		t.Errorf("only %d jobs may be", may)
	}
	for range 50000 {
		if c := anyGood(r); config.Check(c) != api.OK {
			t.Fatalf("Check(%+v) is %d", c, config.Check(c))
		}
	}
}
