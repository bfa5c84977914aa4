package config_test

import (
	"math/rand"
	"slices"
	"strings"
	"testing"

	"keepsake/api"
	"keepsake/config"
)

func win(start, end int64) api.Win {
	return api.Win{Span: api.Span{Start: start, End: end}, Tally: api.Tally{Count: 1}}
}

// wins are windows of which each pair of numbers is a span.
func wins(l ...int64) []api.Win {
	var out []api.Win
	for i := 0; i+1 < len(l); i += 2 {
		out = append(out, win(l[i], l[i+1]))
	}
	return out
}

func keyed(key string, dropped int64, l ...api.Win) api.KeyState {
	return api.KeyState{Key: key, Dropped: dropped, Windows: l}
}

// key holds Key against what is wanted, and State of the key alone likewise, if it has something to keep.
func key(t *testing.T, c api.Config, k api.KeyState, want api.Errno) {
	t.Helper()
	if e := config.Key(c, k); e != want {
		t.Errorf("Key(%+v, %+v) is %d, want %d", c, k, e, want)
	}
	if e := keyOf(c, k); e != want {
		t.Errorf("the model says of %+v, %+v %d", c, k, e)
	}
	if len(k.Windows) > 0 || k.Dropped != 0 {
		state(t, api.State{Config: c, Marks: make([]int64, c.Sources&255), Keys: []api.KeyState{k}}, want)
	}
}

// state holds State against what is wanted.
func state(t *testing.T, s api.State, want api.Errno) {
	t.Helper()
	if e := config.State(s); e != want {
		t.Errorf("State(%+v) is %d, want %d", s, e, want)
	}
	if e := stateOf(s); e != want {
		t.Errorf("the model says of %+v %d", s, e)
	}
}

func TestKeyExamples(t *testing.T) {
	key(t, example(), keyed("a", 0, win(3, 13)), api.OK)
	key(t, example(), keyed("a", 0, win(13, 23), win(3, 13)), api.ErrState)
	key(t, example(), keyed("a", -1), api.ErrState)
}

// Each thing that is asked, broken alone.
func TestKeyInOrder(t *testing.T) {
	for _, c := range kinds() {
		// No windows, nothing dropped: that is a state's matter.
		key(t, c, api.KeyState{}, api.OK)
		key(t, c, keyed("a", 0), api.OK)
		key(t, c, api.KeyState{Key: "a", Windows: []api.Win{}}, api.OK)
		for _, n := range []int{0, 1, 255, 256, 257, 1 << 16} {
			want := api.OK
			if n > 256 {
				want = api.ErrState
			}
			key(t, c, keyed(strings.Repeat("\xfe", n), 1, win(0, 10)), want)
		}
		for _, x := range append(edges(), 0, 1, 1<<53-1, 1<<53, 1<<53+1, -1) {
			want := api.OK
			if x < 0 || x > 1<<53 {
				want = api.ErrState
			}
			key(t, c, keyed("a", x, win(0, 10)), want)
			for _, set := range []func(w *api.Win){
				func(w *api.Win) { w.Count = x },
				func(w *api.Win) { w.Since = x },
				func(w *api.Win) { w.Panes = x },
			} {
				for i := range 3 {
					l := wins(0, 10, 10, 20, 20, 30)
					set(&l[i])
					key(t, c, keyed("a", 0, l...), want)
				}
			}
			// What else stands in a window is not asked here.
			w := win(0, 10)
			w.Hold, w.Sum, w.Min, w.Max = x, x, x, x
			key(t, c, keyed("a", 0, w), api.OK)
		}
	}
}

// Where windows may lie, and that they hold a time.
func TestSpansInOrder(t *testing.T) {
	const low, high = -1<<62 - 1<<40, 1<<62 + 1<<40
	for _, c := range kinds() {
		for _, r := range []struct {
			start, end int64
			want       api.Errno
		}{
			{0, 1, api.OK}, {0, 0, api.ErrState}, {1, 0, api.ErrState}, {-1, 0, api.OK}, {5, -5, api.ErrState},
			{low, low + 1, api.OK}, {low - 1, low, api.ErrState}, {low - 1, 0, api.ErrState}, {low, 0, api.OK}, {low, low, api.ErrState},
			{high - 1, high, api.OK}, {high, high + 1, api.ErrState}, {0, high + 1, api.ErrState}, {0, high, api.OK}, {high, high, api.ErrState},
			{low, high, api.OK}, {low - 1, high, api.ErrState}, {low, high + 1, api.ErrState},
			{least, greatest, api.ErrState}, {least, least, api.ErrState}, {greatest, least, api.ErrState}, {least, 0, api.ErrState}, {0, greatest, api.ErrState}, {greatest, greatest, api.ErrState},
			// Not the job's own windows: that is asked elsewhere.
			{4, 999, api.OK},
		} {
			key(t, c, keyed("a", 0, win(r.start, r.end)), r.want)
			l := []api.Win{win(r.start, r.end)}
			if r.start > 2 {
				l = slices.Insert(l, 0, win(0, 1), win(1, 2))
			} else if r.end < -2 {
				l = append(l, win(-2, -1), win(-1, 0))
			}
			key(t, c, keyed("a", 0, l...), r.want)
		}
	}
}

// Windows rise, none twice; sessions do not overlap.
func TestWindowsRise(t *testing.T) {
	for _, r := range []struct {
		l       []int64
		others  api.Errno
		session api.Errno
	}{
		{[]int64{0, 10, 10, 20}, api.OK, api.OK},
		{[]int64{0, 10, 11, 20}, api.OK, api.OK},
		{[]int64{0, 10, 9, 20}, api.OK, api.ErrState},
		{[]int64{0, 10, 5, 6}, api.OK, api.ErrState},
		{[]int64{0, 10, 1, 10}, api.OK, api.ErrState},
		{[]int64{0, 10, 0, 11}, api.OK, api.ErrState},
		{[]int64{0, 11, 0, 10}, api.ErrState, api.ErrState},
		{[]int64{0, 10, 0, 10}, api.ErrState, api.ErrState},
		{[]int64{10, 20, 0, 10}, api.ErrState, api.ErrState},
		{[]int64{1, 10, 0, 10}, api.ErrState, api.ErrState},
		{[]int64{1, 10, 0, 20}, api.ErrState, api.ErrState},
		{[]int64{0, 5, 5, 10, 10, 15}, api.OK, api.OK},
		{[]int64{0, 5, 5, 10, 9, 15}, api.OK, api.ErrState},
		{[]int64{0, 6, 5, 10, 10, 15}, api.OK, api.ErrState},
		{[]int64{0, 12, 5, 10, 10, 15}, api.OK, api.ErrState},
		{[]int64{0, 5, 10, 15, 5, 10}, api.ErrState, api.ErrState},
		{[]int64{5, 10, 0, 5, 10, 15}, api.ErrState, api.ErrState},
		{[]int64{0, 5, 5, 10, 5, 10}, api.ErrState, api.ErrState},
		{[]int64{0, 5, 0, 5, 5, 10}, api.ErrState, api.ErrState},
		{[]int64{0, 5, 5, 10, 0, 5}, api.ErrState, api.ErrState},
	} {
		key(t, example(), keyed("a", 0, wins(r.l...)...), r.others)
		key(t, sliding(), keyed("a", 0, wins(r.l...)...), r.others)
		key(t, session(), keyed("a", 0, wins(r.l...)...), r.session)
	}
	// Alike but for what is no span: still twice the same window.
	a, b := win(0, 10), win(0, 10)
	a.Hold, b.Hold, b.Count, b.Panes = 1, 2, 3, 4
	for _, c := range kinds() {
		key(t, c, keyed("a", 0, a, b), api.ErrState)
	}
}

// All rows of up to three small spans.
func TestAllSmallRows(t *testing.T) {
	var spans []api.Win
	for start := range int64(4) {
		for end := range int64(5) {
			spans = append(spans, win(start, end))
		}
	}
	for _, c := range kinds() {
		for _, x := range spans {
			for _, y := range spans {
				for _, z := range spans {
					k := keyed("a", 0, x, y, z)
					if got, want := config.Key(c, k), keyOf(c, k); got != want {
						t.Fatalf("Key(%+v, %+v) is %d, want %d", c, k, got, want)
					}
				}
			}
		}
	}
}

func TestStateExamples(t *testing.T) {
	state(t, api.State{Config: example()}, api.ErrState)
	state(t, api.State{Config: example(), Marks: []int64{0}, Keys: []api.KeyState{keyed("a", 0)}}, api.ErrState)
	state(t, api.State{Config: example(), Marks: []int64{0}}, api.OK)
}

func TestMarksInOrder(t *testing.T) {
	for sources := 1; sources <= 64; sources++ {
		c := with(example(), api.FieldSources, int64(sources))
		for _, n := range []int{0, 1, sources - 1, sources, sources + 1, 64, 65, 1000} {
			want := api.OK
			if n != sources {
				want = api.ErrState
			}
			state(t, api.State{Config: c, Marks: make([]int64, n)}, want)
			state(t, api.State{Config: c, Marks: make([]int64, n), Keys: []api.KeyState{}}, want)
			state(t, api.State{Config: c, Marks: make([]int64, n), Keys: []api.KeyState{keyed("a", 1)}}, want)
		}
	}
	for _, x := range edges() {
		want := api.OK
		if x < -1<<62 || x > 1<<62 {
			want = api.ErrState
		}
		state(t, api.State{Config: example(), Marks: []int64{x}}, want)
		for i := range 3 {
			marks := []int64{5, -5, 0} // they need not rise
			marks[i] = x
			state(t, api.State{Config: sliding(), Marks: marks}, want)
		}
	}
	state(t, api.State{Config: example(), Marks: []int64{-1 << 62}}, api.OK)
	state(t, api.State{Config: example(), Marks: []int64{-1<<62 - 1}}, api.ErrState)
	state(t, api.State{Config: example(), Marks: []int64{1 << 62}}, api.OK)
	state(t, api.State{Config: example(), Marks: []int64{1<<62 + 1}}, api.ErrState)
	state(t, api.State{Config: example(), Marks: []int64{}}, api.ErrState)
}

func TestKeysRise(t *testing.T) {
	for _, r := range []struct {
		keys []string
		want api.Errno
	}{
		{nil, api.OK}, {[]string{""}, api.OK}, {[]string{"", "a"}, api.OK}, {[]string{"a", ""}, api.ErrState}, {[]string{"", ""}, api.ErrState},
		{[]string{"a", "b"}, api.OK}, {[]string{"b", "a"}, api.ErrState}, {[]string{"a", "a"}, api.ErrState},
		{[]string{"a", "aa"}, api.OK}, {[]string{"aa", "a"}, api.ErrState}, {[]string{"a", "a\x00"}, api.OK}, {[]string{"a\x00", "a"}, api.ErrState}, {[]string{"aa", "b"}, api.OK}, {[]string{"b", "aa"}, api.ErrState},
		// By bytes, not by letters: the greatest byte is no letter's.
		{[]string{"a", "\x80"}, api.OK}, {[]string{"\x7f", "\xff"}, api.OK}, {[]string{"\xff", "\x7f"}, api.ErrState}, {[]string{"B", "a"}, api.OK}, {[]string{"a", "B"}, api.ErrState}, {[]string{"\uffff", "\U00010000"}, api.OK}, {[]string{"ü", "\xff"}, api.OK}, {[]string{"\xff", "ü"}, api.ErrState}, {[]string{"10", "9"}, api.OK}, {[]string{"9", "10"}, api.ErrState},
		{[]string{"a", "b", "c"}, api.OK}, {[]string{"a", "c", "b"}, api.ErrState}, {[]string{"b", "a", "c"}, api.ErrState}, {[]string{"a", "b", "b"}, api.ErrState}, {[]string{"a", "a", "b"}, api.ErrState}, {[]string{"a", "b", "a"}, api.ErrState}, {[]string{"b", "c", "a"}, api.ErrState},
		{[]string{strings.Repeat("a", 255), strings.Repeat("a", 256)}, api.OK}, {[]string{strings.Repeat("a", 256), strings.Repeat("a", 257)}, api.ErrState},
	} {
		for _, c := range kinds() {
			s := api.State{Config: c, Marks: make([]int64, c.Sources)}
			for i, k := range r.keys {
				// Some with windows alone, some with dropped events alone, some with both.
				one := keyed(k, int64(i%3))
				if i%3 != 1 {
					one.Windows = wins(0, 10, 10, 20)
				}
				s.Keys = append(s.Keys, one)
			}
			state(t, s, r.want)
		}
	}
}

// One key without windows and dropped events, or not in order, wherever it stands.
func TestKeysOfAStateInOrder(t *testing.T) {
	full := func() []api.KeyState {
		return []api.KeyState{keyed("a", 1), keyed("b", 0, win(0, 10)), keyed("c", 2, win(0, 10), win(10, 20))}
	}
	for _, c := range kinds() {
		s := api.State{Config: c, Marks: make([]int64, c.Sources), Keys: full()}
		state(t, s, api.OK)
		for i := range s.Keys {
			for _, k := range []api.KeyState{
				{}, {Windows: []api.Win{}}, {Dropped: -1}, {Dropped: 1<<53 + 1}, {Dropped: -1, Windows: wins(0, 10)},
				{Windows: wins(0, 0)}, {Windows: wins(10, 20, 0, 10)}, {Windows: wins(0, 10, 0, 10)}, {Dropped: 5, Windows: wins(5, 4)},
				{Windows: []api.Win{{Span: api.Span{Start: 0, End: 1}, Since: -1}}}, {Windows: []api.Win{{Span: api.Span{Start: 0, End: 1}, Panes: 1<<53 + 1}}}, {Windows: []api.Win{{Span: api.Span{Start: 0, End: 1}, Tally: api.Tally{Count: -1}}}},
			} {
				s.Keys = full()
				k.Key = s.Keys[i].Key
				s.Keys[i] = k
				state(t, s, api.ErrState)
			}
			overlapping := api.OK
			if c.Kind == api.Session {
				overlapping = api.ErrState
			}
			s.Keys = full()
			s.Keys[i].Windows = wins(0, 10, 5, 15)
			state(t, s, overlapping)
		}
	}
}

// A job that may not be comes ahead of all else.
func TestStatesOfWrongJobs(t *testing.T) {
	for _, c := range kinds() {
		for f := api.FieldGroups; f <= api.FieldEarly; f++ {
			for _, x := range []int64{-1, greatest} {
				c := with(c, f, x)
				for _, k := range []api.KeyState{{}, keyed("a", 0, win(0, 10)), keyed("a", -1), keyed("a", 0, win(10, 0)), keyed(strings.Repeat("a", 257), 0)} {
					if e := config.Key(c, k); e != api.ErrJob {
						t.Errorf("Key(%+v, %+v) is %d", c, k, e)
					}
					state(t, api.State{Config: c, Marks: []int64{0}, Keys: []api.KeyState{k}}, api.ErrJob)
				}
				state(t, api.State{Config: c}, api.ErrJob)
				state(t, api.State{Config: c, Marks: make([]int64, 3)}, api.ErrJob)
			}
		}
	}
	state(t, api.State{}, api.ErrJob)
}

// anyKeyState is a key's state with a few small windows, nearly in order.
func anyKeyState(r *rand.Rand, name string) api.KeyState {
	k := api.KeyState{Key: name}
	if r.Intn(3) == 0 {
		k.Dropped = int64(r.Intn(3))
	}
	at := int64(r.Intn(20)) - 10
	if r.Intn(20) == 0 {
		at = anyNumber(r)
	}
	for range r.Intn(5) {
		w := win(at, at+1+r.Int63n(10))
		if r.Intn(30) == 0 {
			w.Since = anyNumber(r)
		}
		if r.Intn(30) == 0 {
			w.End = w.Start
		}
		k.Windows = append(k.Windows, w)
		at = w.End + r.Int63n(3)
		if r.Intn(12) == 0 {
			at = w.Start + r.Int63n(2)
		}
	}
	return k
}

func anyState(r *rand.Rand) api.State {
	c := kinds()[r.Intn(3)]
	if r.Intn(30) == 0 {
		c = anyJob(r)
	}
	s := api.State{Config: c, Marks: make([]int64, c.Sources&255)}
	for i := range s.Marks {
		s.Marks[i] = r.Int63n(100)
	}
	if len(s.Marks) > 0 && r.Intn(10) == 0 {
		s.Marks[r.Intn(len(s.Marks))] = anyNumber(r)
	}
	if r.Intn(30) == 0 {
		s.Marks = append(s.Marks, 0)
	}
	name := byte('a')
	for range r.Intn(5) {
		s.Keys = append(s.Keys, anyKeyState(r, string(name)))
		if r.Intn(15) > 0 {
			name++
		}
	}
	return s
}

func TestStatesOfAny(t *testing.T) {
	r := rand.New(rand.NewSource(8))
	seen := map[api.Errno]int{}
	for range 50000 {
		s := anyState(r)
		want := stateOf(s)
		seen[want]++
		if state(t, s, want); t.Failed() {
			t.FailNow()
		}
		for _, k := range s.Keys {
			if got, want := config.Key(s.Config, k), keyOf(s.Config, k); got != want {
				t.Fatalf("Key(%+v, %+v) is %d, want %d", s.Config, k, got, want)
			}
		}
	}
	if seen[api.OK] < 5000 || seen[api.ErrState] < 5000 || seen[api.ErrJob] < 100 {
		t.Errorf("the states are %v", seen)
	}
}

// Great states are held against order once, not pair by pair.
func TestGreatStates(t *testing.T) {
	var l []api.Win
	for i := range int64(300000) {
		l = append(l, win(i*10, i*10+10))
	}
	for _, c := range kinds() {
		s := api.State{Config: c, Marks: make([]int64, c.Sources)}
		for i := range 100000 {
			s.Keys = append(s.Keys, keyed(string([]byte{byte(i >> 16), byte(i >> 8), byte(i)}), 1))
		}
		s.Keys[0].Windows = l
		if e := config.State(s); e != api.OK {
			t.Errorf("State of many keys is %d", e)
		}
		s.Keys[99999].Dropped = 0
		if e := config.State(s); e != api.ErrState {
			t.Errorf("State of many keys, the last one without anything, is %d", e)
		}
	}
}

// What is handed in stays as it is.
func TestOrderLeavesAlone(t *testing.T) {
	room := wins(20, 30, 0, 10, 10, 20, 5, 6)
	was := slices.Clone(room)
	marks := []int64{3, 1, 2, 9}
	keys := []api.KeyState{keyed("b", 0, room[:3]...), keyed("a", 1)}
	config.Key(sliding(), keyed("a", 0, room[:3]...))
	config.State(api.State{Config: sliding(), Marks: marks[:3], Keys: keys})
	if !slices.Equal(room, was) || !slices.Equal(marks, []int64{3, 1, 2, 9}) || keys[0].Key != "b" || keys[1].Key != "a" {
		t.Errorf("%v, %v, %v are left", room, marks, keys)
	}
}
