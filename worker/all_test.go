package worker_test

import (
	"iter"
	"slices"
	"testing"

	"keepsake/api"
	"keepsake/worker"
)

// names are the keys that are told.
func names(all iter.Seq[api.KeyState]) (l []string) {
	for k := range all {
		l = append(l, k.Key)
	}
	return l
}

// some is a worker with the keys b, d and f; a, c, e are not there.
func some(t *testing.T) twin {
	t.Helper()
	w := alone(t, example(), 0)
	w.do(t, event("d", 3, 1), event("f", 13, 1), event("b", 3, 1), event("d", 4, 1))
	return w
}

// P16.5: All from a key that is there, from one that is not, from ahead of all, from behind all.
func TestAllFrom(t *testing.T) {
	w := some(t)
	for from, want := range map[string][]string{
		"": {"b", "d", "f"}, "a": {"b", "d", "f"}, "\x00": {"b", "d", "f"}, "b": {"b", "d", "f"}, "b\x00": {"d", "f"}, "c": {"d", "f"}, "d": {"d", "f"}, "da": {"f"}, "f": {"f"}, "f\x00": nil, "g": nil, "\xff\xff": nil,
		string(make([]byte, 1000)): {"b", "d", "f"},
	} {
		if got := names(w.w.All(from)); !slices.Equal(got, want) {
			t.Errorf("All(%q) tells %q, want %q", from, got, want)
		}
		if got := slices.Collect(w.w.All(from)); !sameKeys(got, w.want.from(from)) {
			t.Errorf("All(%q) tells %+v, want %+v", from, got, w.want.from(from))
		}
	}
	none := alone(t, example(), 0)
	if got := names(none.w.All("")); got != nil {
		t.Errorf("All of no keys tells %q", got)
	}
	w.same(t)
}

// P16.5: it may be left anywhere, and gone through again.
func TestAllLeftEarly(t *testing.T) {
	w := some(t)
	all := w.w.All("b")
	for n := range 4 {
		var got []string
		for k := range all {
			if len(got) == n {
				break
			}
			got = append(got, k.Key)
		}
		if want := []string{"b", "d", "f"}[:n]; !slices.Equal(got, want) {
			t.Errorf("left behind %d it has told %q", n, got)
		}
	}
	for range 3 {
		if got := names(all); !slices.Equal(got, []string{"b", "d", "f"}) {
			t.Errorf("gone through again it tells %q", got)
		}
	}
	told := 0
	all(func(api.KeyState) bool { told++; return false })
	if told != 1 {
		t.Errorf("whoever wants no more is told %d", told)
	}
	w.same(t)
}

// P16.5: each loop tells what is there when it begins, not when All was called.
func TestAllAnew(t *testing.T) {
	w := some(t)
	all := w.w.All("c")
	w.do(t, event("e", 23, 1))
	if got := names(all); !slices.Equal(got, []string{"d", "e", "f"}) {
		t.Errorf("All tells %q", got)
	}
	w.do(t, mark(18))
	if got := slices.Collect(all); !sameKeys(got, w.want.from("c")) || len(got) != 2 {
		t.Errorf("All tells %+v", got)
	}
	w.load(t, key("d", 1))
	if got := names(all); !slices.Equal(got, []string{"d"}) {
		t.Errorf("All tells %q", got)
	}
	w.load(t)
	if got := names(all); got != nil {
		t.Errorf("All tells %q", got)
	}
}

// P16.5: the worker may go on while a loop goes on, which does not see it; loops may stand within one another.
func TestAllWhileTheWorkerGoesOn(t *testing.T) {
	for name, goOn := range map[string]func(w twin, at int64){
		"events": func(w twin, at int64) {
			w.do(t, event("d", 3, at), event("a", 3, 1), event("dd", 3, 1), event("z", 3, 1))
		},
		"marks":     func(w twin, at int64) { w.do(t, mark(10*at+8)) },
		"loads":     func(w twin, at int64) { w.load(t, key("a", at), key("e", 1)) },
		"no keys":   func(w twin, at int64) { w.load(t) },
		"a copy":    func(w twin, at int64) { w.copied(t).do(t, event("c", 3, 1), mark(100)) },
		"all again": func(w twin, at int64) { w.same(t); names(w.w.All("")) },
	} {
		w := some(t)
		want := copied(w.want.keys)
		var got []api.KeyState
		for k := range w.w.All("") {
			got = append(got, k)
			goOn(w, int64(len(got)))
			w.same(t)
		}
		if !sameKeys(got, want) {
			t.Errorf("%s: All tells %+v, want %+v", name, got, want)
		}
		if l := slices.Collect(w.w.All("")); !sameKeys(l, w.want.keys) {
			t.Errorf("%s: All then tells %+v", name, l)
		}
	}
}

// Whatever becomes of a worker's variable, an iterator tells of what it was made of.
func TestAllOfWorkerThatIsLeft(t *testing.T) {
	w := some(t)
	all := w.w.All("")
	other := *w.w
	w.w, _ = worker.New(example(), 0, 1, 0)
	if got := names(all); len(got) != 3 || len(names(other.All(""))) != 3 || len(names(w.w.All(""))) != 0 {
		t.Errorf("All tells %q", got)
	}
}

// P16.6: a copy and its origin go on apart, whichever is changed first.
func TestCopiesGoOnApart(t *testing.T) {
	for _, c := range kinds() {
		a := newTwin(t, with(c, 2, true), 0, 2, 0)
		a.do(t, event("a", 3, 5), event("b", 4, 1), mark(5), event("a", 9, 1))
		b := a.copied(t)
		b.same(t)
		a.do(t, event("a", 3, 1), event("b", 40, 1))
		b.same(t)
		b.refuses(t, event("c", 3, 1), api.ErrOther)
		b.refuses(t, mark(5), api.ErrFalls)
		b.do(t, mark(20), event("b", 4, 7))
		a.same(t)
		b.same(t)
		d := b.copied(t)
		b.do(t, mark(400))
		a.load(t, key("b", 3))
		d.same(t)
		d.do(t, event("b", 9, 9), mark(300))
		b.same(t)
		a.same(t)
		d.same(t)
		e := a.copied(t)
		e.load(t)
		a.same(t)
		e.do(t, mark(100))
		a.same(t)
		e.same(t)
	}
}

// Two workers have nothing to do with one another, not even such as have the same keys.
func TestWorkersGoOnApart(t *testing.T) {
	l := keys(key("a", 1, one(0, 10, 3)), key("b", 0, one(0, 10, 4)))
	a, b := alone(t, example(), 0), alone(t, example(), 0)
	a.load(t, l...)
	b.load(t, l...)
	a.do(t, event("a", 3, 1), mark(10))
	b.same(t)
	b.do(t, event("b", 3, 1))
	a.same(t)
	b.same(t)
}

// A worker that is assigned is the same one: nothing goes astray between the two.
func TestAssignedWorker(t *testing.T) {
	a := alone(t, example(), 0)
	other := *a.w
	b := twin{&other, a.want}
	for i := range int64(8) {
		a.do(t, event("a", 3*i, i), event("b", 9, 1))
		b.same(t)
		b.do(t, event("a", 4*i, i), mark(3*i+1))
		a.same(t)
	}
	b.load(t, key("a", 1))
	a.same(t)
	a.load(t, key("b", 0, one(0, 50, 3)))
	b.same(t)
}
