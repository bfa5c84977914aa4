package worker_test

import (
	"slices"
	"strings"
	"sync"
	"testing"
	"unsafe"

	"keepsake/api"
	"keepsake/worker"
)

// overwrite writes over a list, the room behind it included.
func overwrite[E any](l []E) { clear(l[:cap(l)]) }

// overwriteAnswers writes over all that a worker answers.
func overwriteAnswers(w *worker.Worker) {
	l := w.Keys()
	for _, k := range l {
		overwrite(k.Windows)
	}
	overwrite(l)
	for k := range w.All("a") {
		overwrite(k.Windows)
	}
	for _, name := range []string{"a", "b", "nobody"} {
		k, _ := w.Key(name)
		overwrite(k.Windows)
	}
}

// P16.8: what is answered is nobody else's: a worker does not mind what becomes of it.
func TestAnswersAreNewMemory(t *testing.T) {
	for _, c := range kinds() {
		w := alone(t, with(c, 1, false), 0)
		for i := range int64(12) {
			w.do(t, event("a", 3*i, 1), event("b", 3*i, 1), save(), mark(2*i+1), event("a", 3*i, 1))
			d := w.copied(t)
			overwriteAnswers(w.w)
			w.same(t)
			d.same(t)
			overwriteAnswers(d.w)
			w.same(t)
			d.same(t)
			l := w.w.Keys()
			from := alone(t, with(c, 1, false), 2*i)
			from.load(t, l...)
			for _, k := range l {
				overwrite(k.Windows)
			}
			overwrite(l)
			from.same(t)
			overwriteAnswers(from.w)
			w.same(t)
		}
	}
}

// An answer stays as it is, whatever the worker does then.
func TestAnswersStay(t *testing.T) {
	for _, c := range kinds() {
		w := alone(t, with(c, 1, false), 0)
		first, _ := w.w.Take(event("a", 3, 1))
		want, _ := w.want.take(event("a", 3, 1))
		w.do(t, event("b", 4, 1))
		was := w.want.copied()
		all, seen := w.w.Keys(), slices.Collect(w.w.All(""))
		k, _ := w.w.Key("a")
		for i := range int64(20) {
			w.do(t, event("a", 3+i, 1), mark(i+1), event("b", i, 9))
		}
		if wantKey, _ := was.key("a"); !slices.Equal(first, want) || !sameKeys(all, was.keys) || !sameKeys(seen, was.keys) || !sameKey(k, wantKey) {
			t.Errorf("of %+v answers are others then: %v, %+v, %+v, %+v", c, first, all, seen, k)
		}
	}
}

// P16.8: what is handed in stays, the room behind it included, and is not kept.
func TestWhatIsHandedIn(t *testing.T) {
	for _, c := range kinds() {
		wins := []api.Win{one(3, 13, 3), one(13, 23, 13), one(77, 78, 77)}
		list := []api.KeyState{key("a", 1, wins[:2]...), key("b", 1), key("room", 1)}
		wasWins, wasList := slices.Clone(wins), copied(list)
		w := alone(t, c, 5)
		w.load(t, list[:2]...)
		w.do(t, event("a", 4, 1), mark(14), event("b", 40, 1), event("a", 20, 1), mark(50))
		w.load(t, key("b", 1), key("a", 1)) // which is refused
		if !slices.Equal(wins, wasWins) || !sameKeys(list, wasList) {
			t.Errorf("of %+v what was handed in is %v, %v then", c, wins, list)
		}
		w = alone(t, c, 5)
		w.load(t, list[:2]...)
		w.do(t, event("a", 4, 1))
		clear(wins)
		clear(list)
		w.same(t)
		w.do(t, event("a", 20, 1), mark(50))
		w.same(t)
	}
}

// Texts, too: none that was handed in is kept, and each one that is answered stands by itself.
func TestKeysAreNewMemory(t *testing.T) {
	long := strings.Repeat("key", 50)
	seen := map[*byte]int{unsafe.StringData(long): 1}
	told := 0
	tell := func(who, name string) {
		t.Helper()
		told++
		seen[unsafe.StringData(name)]++
		if name != long || seen[unsafe.StringData(name)] != 1 {
			t.Errorf("the key that %s tells is another one, or stands in memory that is known", who)
		}
	}
	c := with(sliding(), 1, false)
	first, _ := worker.New(c, 0, 1, 0)
	loaded, _ := worker.New(c, 0, 1, 0)
	loaded.Load(key(long, 1, one(0, 10, 3), one(2, 10, 3)))
	for at := range int64(2) {
		for _, w := range []*worker.Worker{first, first.Copy(), loaded, loaded.Copy()} {
			for _, x := range msgs(event(long, 3, 1), event(long, 4, 1), mark(10+at), event(long, 7, 1)) {
				l, _ := w.Take(x)
				for _, p := range l {
					tell("Take", p.Key)
				}
			}
			k, _ := w.Key(long)
			tell("Key", k.Key)
			for _, k := range w.Keys() {
				tell("Keys", k.Key)
			}
			for range 2 {
				for k := range w.All(long) {
					tell("All", k.Key)
				}
			}
		}
	}
	if told < 60 {
		t.Errorf("%d keys were told", told)
	}
}

// A text whose bytes are written over when the call has answered is nobody's key any more.
func TestTextsAreNotKept(t *testing.T) {
	for _, c := range kinds() {
		spoilt := []byte("key")
		name := unsafe.String(&spoilt[0], len(spoilt))
		first, _ := worker.New(c, 0, 1, 0)
		first.Take(event(name, 3, 1))
		first.Take(event(name, 4, 1))
		loaded, _ := worker.New(c, 0, 1, 0)
		loaded.Load(key(name, 2, one(3, 13, 3)))
		loaded.Take(event(name, 3, 1))
		all, allLoaded := first.All(name), loaded.All(name)
		spoilt[0] = 'z'
		for i, w := range []*worker.Worker{first, loaded} {
			if got := names([]func(func(api.KeyState) bool){all, allLoaded}[i]); !slices.Equal(got, []string{"key"}) {
				t.Errorf("of %+v All tells %q", c, got)
			}
			if _, found := w.Key(name); found || w.Len() != 1 {
				t.Errorf("of %+v there is the key %q, or %d keys", c, name, w.Len())
			}
			l, _ := w.Take(mark(300))
			if len(l) == 0 || slices.ContainsFunc(l, func(p api.Pane) bool { return p.Key != "key" }) {
				t.Errorf("of %+v %v are told", c, l)
			}
			if w.Len() != i {
				t.Errorf("of %+v %d keys are left", c, w.Len())
			}
		}
	}
}

// A list without anything in it is nil in every answer, so that answers that are alike are alike to all who compare them.
func TestEmptyListsAreNil(t *testing.T) {
	w, _ := worker.New(example(), 0, 1, 18)
	if l := w.Keys(); l != nil {
		t.Errorf("the keys are %#v", l)
	}
	w.Load([]api.KeyState{}...)
	if l := w.Keys(); l != nil {
		t.Errorf("the keys are %#v", l)
	}
	a := key("a", 1)
	a.Windows = []api.Win{}
	w.Load(a)
	w.Take(event("b", 3, 1))
	for _, w := range []*worker.Worker{w, w.Copy()} {
		for _, k := range append(w.Keys(), slices.Collect(w.All("a"))...) {
			if k.Windows != nil || k.Dropped != 1 {
				t.Errorf("the key is %#v", k)
			}
		}
		if k, _ := w.Key("a"); k.Windows != nil || k.Dropped != 1 {
			t.Errorf("the key a is %#v", k)
		}
	}
	for _, x := range msgs(event("a", 25, 1), save(), mark(19)) {
		if l, e := w.Take(x); l != nil || e != api.OK {
			t.Errorf("Take(%+v) is %#v, %d", x, l, e)
		}
	}
}

// A worker that nobody changes is read by many at a time, while copies of it go on.
func TestReadSideBySide(t *testing.T) {
	w := alone(t, with(sliding(), 2, false), -20)
	for i := range int64(50) {
		w.do(t, event(string(rune('a'+i%26)), i, i), event("a", i, 1), mark(i-19))
	}
	m := w.want
	next, _ := m.next()
	var all sync.WaitGroup
	right := make([]int, 8)
	for g := range right {
		all.Go(func() {
			for i := range int64(20) {
				d := w.w.Copy()
				d.Take(event("a", 50+i, 1))
				d.Take(event("new", 50, 1))
				d.Take(mark(40 + i))
				end, _ := w.w.Next()
				k, _ := w.w.Key("a")
				if w.w.Outward() == m.outward() && w.w.Mark() == m.mark && end == next && w.w.Len() == len(m.keys) && sameKeys(w.w.Keys(), m.keys) && sameKey(k, m.keys[0]) && len(names(w.w.All("b"))) == len(m.from("b")) {
					right[g]++
				}
			}
		})
	}
	all.Wait()
	for g, n := range right {
		if n != 20 {
			t.Errorf("the reader %d finds what must be %d times", g, n)
		}
	}
	w.same(t)
}
