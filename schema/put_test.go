package schema_test

import (
	"slices"
	"strings"
	"testing"

	"keepsake/api"
	"keepsake/schema"
)

// win is a window with all its fields.
func win(start, end, hold, count, sum, min, max, since, panes int64) api.Win {
	return api.Win{Span: api.Span{Start: start, End: end}, Hold: hold, Tally: api.Tally{Count: count, Sum: sum, Min: min, Max: max}, Since: since, Panes: panes}
}

// The chapter's table.
func TestExamples(t *testing.T) {
	for _, x := range []struct {
		c    api.Config
		k    api.KeyState
		want []byte
	}{
		{tumbling(), keyed("a", 3), []byte{1, 97, 3, 0}},
		{tumbling(), keyed("", 0, win(0, 10, 3, 2, 9, 4, 5, 2, 1)), []byte{0, 0, 1, 0, 9, 6, 2, 18, 8, 10, 2, 1}},
		{session(), keyed("b", 0, win(-3, 2, -3, 1, 7, 7, 7, 1, 0), win(4, 9, 4, 1, -1, -1, -1, 1, 0)),
			[]byte{1, 98, 0, 2, 5, 4, 5, 1, 14, 14, 14, 1, 0, 7, 4, 8, 1, 1, 1, 1, 1, 0}},
	} {
		if b, e := schema.Put(x.c, x.k); e != api.OK || string(b) != string(x.want) {
			t.Errorf("Put(%+v) is %v, %d, want %v", x.k, b, e, x.want)
		}
		if b := bytesOf(x.k); string(b) != string(x.want) {
			t.Errorf("the model says of %+v %v", x.k, b)
		}
		put(t, x.c, x.k)
		read(t, x.c, x.want)
	}
	if b, e := schema.Put(tumbling(), keyed("a", 0, spans(0, 10, 0, 10)...)); b != nil || e != api.ErrState {
		t.Errorf("Put of a window twice is %v, %d", b, e)
	}
	if k, n, e := schema.Read(tumbling(), []byte{1, 97, 3, 0, 9, 9}); !same(k, keyed("a", 3)) || n != 4 || e != api.OK {
		t.Errorf("Read is %+v, %d, %d", k, n, e)
	}
	for _, b := range [][]byte{{1, 97, 3}, {1, 97, 3, 128, 0}} {
		if k, n, e := schema.Read(tumbling(), b); !same(k, api.KeyState{}) || n != 0 || e != api.ErrSchema {
			t.Errorf("Read(%v) is %+v, %d, %d", b, k, n, e)
		}
	}
	if k, n, e := schema.Read(api.Config{}, []byte{1, 97, 3, 0}); !same(k, api.KeyState{}) || n != 0 || e != api.ErrJob {
		t.Errorf("Read of no job is %+v, %d, %d", k, n, e)
	}
	if key, n, e := schema.Skip([]byte{0, 0, 1, 0, 9, 6, 2, 18, 8, 10, 2, 1, 7}); key != "" || n != 12 || e != api.OK {
		t.Errorf("Skip is %q, %d, %d", key, n, e)
	}
	if l, e := schema.ReadAll(tumbling(), []byte{1, 97, 3, 0, 1, 98, 1, 0}); e != api.OK || !slices.EqualFunc(l, []api.KeyState{keyed("a", 3), keyed("b", 1)}, same) {
		t.Errorf("ReadAll is %+v, %d", l, e)
	}
	for _, b := range [][]byte{{1, 98, 1, 0, 1, 97, 3, 0}, {1, 97, 3, 0, 1}} {
		if l, e := schema.ReadAll(tumbling(), b); l != nil || e != api.ErrSchema {
			t.Errorf("ReadAll(%v) is %+v, %d", b, l, e)
		}
	}
}

// P19.1, P19.2, P19.4: a job that may not be is told ahead of all else.
func TestNoJob(t *testing.T) {
	for _, c := range noJobs() {
		for _, k := range []api.KeyState{keyed("a", 3), keyed("a", -1), keyed("", 0, spans(5, 3)...)} {
			putWrong(t, c, k, api.ErrJob)
		}
		if b, e := schema.PutAll(c); b != nil || e != api.ErrJob {
			t.Errorf("PutAll of none is %v, %d", b, e)
		}
		if b, e := schema.PutAll(c, keyed("b", 1), keyed("a", 1)); b != nil || e != api.ErrJob {
			t.Errorf("PutAll is %v, %d", b, e)
		}
		for _, b := range [][]byte{nil, {1, 97, 3, 0}, {1, 97}, {255}} {
			if k, n, e := schema.Read(c, b); !same(k, api.KeyState{}) || k.Windows != nil || n != 0 || e != api.ErrJob {
				t.Errorf("Read(%v) is %+v, %d, %d", b, k, n, e)
			}
			if l, e := schema.ReadAll(c, b); l != nil || e != api.ErrJob {
				t.Errorf("ReadAll(%v) is %+v, %d", b, l, e)
			}
		}
	}
}

// edges are numbers at which something ends: of int64, of forms, of counts, of places where windows may lie.
func edges() []int64 {
	l := []int64{least, least + 1, leastStart - 1, leastStart, leastStart + 1, -1 << 62, -1, 0, 1, greatestEnd - 1, greatestEnd, greatestEnd + 1, 1 << 62, greatest - 1, greatest, mostCount - 1, mostCount, mostCount + 1}
	for shift := 6; shift < 63; shift += 7 {
		l = append(l, 1<<shift-1, 1<<shift, -1<<shift, -1<<shift-1, 2<<shift-1, 2<<shift)
	}
	return l
}

// P19.1: each field alone, at each bound, in each of three windows.
func TestFields(t *testing.T) {
	sets := []func(w *api.Win, x int64){
		func(w *api.Win, x int64) { w.Start = x },
		func(w *api.Win, x int64) { w.End = x },
		func(w *api.Win, x int64) { w.Hold = x },
		func(w *api.Win, x int64) { w.Count = x },
		func(w *api.Win, x int64) { w.Sum = x },
		func(w *api.Win, x int64) { w.Min = x },
		func(w *api.Win, x int64) { w.Max = x },
		func(w *api.Win, x int64) { w.Since = x },
		func(w *api.Win, x int64) { w.Panes = x },
	}
	for _, c := range jobs() {
		for _, x := range edges() {
			put(t, c, keyed("a", x))
			put(t, c, keyed("a", x, spans(0, 10)...))
			for _, set := range sets {
				for i := range 3 {
					l := spans(0, 10, 10, 20, 20, 30)
					set(&l[i], x)
					put(t, c, keyed("a", 0, l...))
				}
				w := span(0, 10)
				set(&w, x)
				put(t, c, keyed("b", 2, w))
			}
		}
	}
}

// P19.1: what a state must be, broken alone.
func TestOutOfOrder(t *testing.T) {
	for _, c := range jobs() {
		for _, k := range []api.KeyState{
			keyed(strings.Repeat("k", 257), 1),
			keyed(strings.Repeat("k", 1<<16), 0, spans(0, 10)...),
			keyed("a", -1), keyed("a", mostCount+1), keyed("a", least), keyed("a", greatest),
			keyed("a", 0, spans(0, 0)...), keyed("a", 0, spans(1, 0)...), keyed("a", 0, spans(greatest, least)...), keyed("a", 0, spans(least, greatest)...),
			keyed("a", 0, spans(leastStart-1, 0)...), keyed("a", 0, spans(0, greatestEnd+1)...),
			keyed("a", 0, spans(0, 10, 0, 10)...), keyed("a", 0, spans(0, 10, 10, 20, 10, 20)...),
			keyed("a", 0, spans(10, 20, 0, 10)...), keyed("a", 0, spans(0, 10, 20, 30, 10, 20)...), keyed("a", 0, spans(0, 10, 0, 9)...),
		} {
			putWrong(t, c, k, api.ErrState)
		}
	}
	// Of a session job none overlap; of others they may.
	for _, l := range [][]api.Win{spans(0, 10, 9, 12), spans(0, 10, 0, 12), spans(0, 10, 3, 5), spans(0, 10, 10, 20, 19, 21)} {
		putWrong(t, session(), keyed("a", 0, l...), api.ErrState)
		put(t, tumbling(), keyed("a", 0, l...))
		put(t, sliding(), keyed("a", 0, l...))
	}
}

// P19.1: what is in order, though no job would lay it so.
func TestInOrder(t *testing.T) {
	for _, c := range jobs() {
		for _, k := range []api.KeyState{
			{},
			{Key: "a", Windows: []api.Win{}},
			keyed("", mostCount),
			keyed("\x00", 1), keyed("\xff\xfe", 1), keyed("é", 1),
			keyed(strings.Repeat("k", 127), 1, spans(0, 10)...),
			keyed(strings.Repeat("k", 128), 1, spans(0, 10)...),
			keyed(strings.Repeat("\xff", 255), 1, spans(0, 10)...),
			keyed(strings.Repeat("\x00", 256), 1, spans(0, 10)...),
			keyed("a", 0, spans(4, 999)...),
			keyed("a", 0, spans(leastStart, greatestEnd)...),
			keyed("a", 0, spans(leastStart, leastStart+1, greatestEnd-1, greatestEnd)...),
			keyed("a", 0, spans(-10, -5, -5, 0, 0, 1, 1, 2)...),
			// A tally that no values make, counts of 0 beside others.
			keyed("a", 0, win(0, 1, least, 0, greatest, least, greatest, 0, mostCount)),
			keyed("a", 0, win(0, 1, greatest, mostCount, least, greatest, least, mostCount, 0)),
			keyed("a", 0, win(0, 10, 0, 0, 0, 0, 0, 0, 0), win(10, 20, -1, 0, 0, 0, 0, 7, 0)),
		} {
			if !inOrder(c, k) {
				t.Errorf("the model refuses %+v", k)
			}
			put(t, c, k)
		}
	}
}

// many are so many windows, each as long as the next ones are far.
func many(n int) []api.Win {
	var l []api.Win
	for i := range int64(n) {
		l = append(l, win(3*i-1000, 3*i-997, -i, i, -i*i, i*i*i, i<<40, i%3, i%5))
	}
	return l
}

// P19.1, P19.2: as many windows as there are, also where their number is of more bytes, and where they lie as near as can be.
func TestManyWindows(t *testing.T) {
	for _, c := range jobs() {
		for _, n := range []int{0, 1, 2, 9, 10, 127, 128, 129, 300} {
			k := keyed("k", 1, many(n)...)
			put(t, c, k)
			read(t, c, bytesOf(k))
		}
	}
	for _, n := range []int{16383, 16384, 40000} {
		k := keyed("", 0, many(n)...)
		want := bytesOf(k)
		b, e := schema.Put(session(), k)
		if e != api.OK || string(b) != string(want) {
			t.Errorf("Put of %d windows: %d", n, e)
		}
		got, size, e := schema.Read(session(), append(b, 7))
		if e != api.OK || size != len(want) || !same(got, k) {
			t.Errorf("Read of %d windows is %d windows, %d, %d", n, len(got.Windows), size, e)
		}
		if _, size, e := schema.Skip(append(b, 7)); e != api.OK || size != len(want) {
			t.Errorf("Skip of %d windows is %d, %d", n, size, e)
		}
		// One window less than is said.
		short := b[:len(b)-1]
		if _, _, e := schema.Read(session(), short); e != api.ErrSchema {
			t.Errorf("Read of cut bytes: %d", e)
		}
		if _, _, e := schema.Skip(short); e != api.ErrSchema {
			t.Errorf("Skip of cut bytes: %d", e)
		}
	}
}
