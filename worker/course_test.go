package worker

import (
	"math/rand"
	"slices"
	"testing"

	"keepsake/api"
	"keepsake/timers"
)

// sound tells whether what windows wait for is just what stands in the timers.
func sound(t *testing.T, c *course) {
	t.Helper()
	ends, holds, gone := timers.New(), timers.New(), timers.New()
	for key, k := range c.keys.All() {
		if key != k.Key || len(k.Windows) == 0 && k.Dropped == 0 {
			t.Fatalf("at the key %q stands %+v", key, k)
		}
		for _, x := range k.Windows {
			if x.End > c.mark {
				ends.Set(api.Timer{At: x.End, Key: key, Win: x.Span})
				holds.Set(api.Timer{At: x.Hold, Key: key, Win: x.Span})
			} else {
				gone.Set(api.Timer{At: x.End + c.config.Late, Key: key, Win: x.Span})
			}
		}
	}
	for name, l := range map[string][2]*timers.Timers{"ends": {c.ends, ends}, "holds": {c.holds, holds}, "gone": {c.gone, gone}} {
		if got, want := slices.Collect(l[0].All()), slices.Collect(l[1].All()); !slices.Equal(got, want) {
			t.Fatalf("%s are\n%v, want\n%v", name, got, want)
		}
	}
}

// Nothing is waited for but what the windows that there are wait for: no timer of another one stays behind, not even one that nobody would ever see.
func TestTimersAreSound(t *testing.T) {
	r := rand.New(rand.NewSource(1))
	for i := range 300 {
		c := api.Config{Groups: 4, Sources: 1, Kind: api.Tumbling, Size: 10, Late: r.Int63n(20), Early: r.Intn(3), Discard: r.Intn(2) == 0}
		switch i % 3 {
		case 1:
			c.Kind, c.Slide = api.Sliding, 3
		case 2:
			c.Kind, c.Size, c.Gap = api.Session, 0, 10
		}
		w, _ := New(c, 0, 1, 0)
		family := []*Worker{w}
		for range 60 {
			w := family[r.Intn(len(family))]
			at := w.mark + r.Int63n(40) - 20
			switch r.Intn(8) {
			case 0:
				family = append(family, w.Copy())
			case 1:
				w.Take(api.Msg{Kind: api.MsgMark, Time: at})
			case 2:
				w.Take(api.Msg{Kind: api.MsgMark, Time: w.mark + r.Int63n(4)})
			case 3:
				other := family[r.Intn(len(family))]
				w.Load(other.Keys()...)
			default:
				w.Take(api.Msg{Kind: api.MsgEvent, Key: string(rune('a' + r.Intn(3))), Time: at, Value: r.Int63n(9)})
			}
			for _, w := range family {
				sound(t, w.course)
			}
		}
	}
}

// The keys that a mark touches rise, each of them once, however many of its windows are due.
func TestTouched(t *testing.T) {
	w, _ := New(api.Config{Groups: 4, Sources: 1, Kind: api.Tumbling, Size: 10, Late: 5}, 0, 1, 0)
	for _, key := range []string{"c", "a", "d", "b", "c", "a"} {
		for at := range int64(4) {
			w.Take(api.Msg{Kind: api.MsgEvent, Key: key, Time: 10*at + int64(key[0]-'a')})
		}
	}
	w.Take(api.Msg{Kind: api.MsgEvent, Key: "e", Time: 39})
	w.mark = 30
	if got := w.touched(); !slices.Equal(got, []string{"a", "b", "c", "d"}) {
		t.Errorf("%q are touched", got)
	}
	if got := w.touched(); got != nil {
		t.Errorf("%q are touched again", got)
	}
	w.mark = 40
	if got := w.touched(); !slices.Equal(got, []string{"a", "b", "c", "d", "e"}) {
		t.Errorf("%q are touched", got)
	}
}
