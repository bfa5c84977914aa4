package route_test

import (
	"slices"
	"strings"
	"sync"
	"testing"
	"unsafe"

	"keepsake/api"
	"keepsake/route"
)

// overwrite writes over a list, the room behind it included.
func overwrite[E any](l []E) { clear(l[:cap(l)]) }

// What is answered is nobody else's: no router minds what becomes of it, and no other answer does.
func TestAnswersAreNewMemory(t *testing.T) {
	for _, workers := range []int{1, 2, 4} {
		w := fromTwin(t, job(), workers, []int64{1, 2}, 3)
		for i := range int64(20) {
			l := items(event("a", i, 1), mark(0, 3*i), event("d", i, 2), save(), mark(1, 2*i))
			was := w.copied(t)
			first := w.do(t, l...)
			want := slices.Clone(first)
			overwrite(w.do(t, l...))
			overwrite(w.one(t, save()))
			overwrite(w.one(t, event("a", 1, 1)))
			if !slices.Equal(first, want) {
				t.Fatalf("%v was sent, and is %v then", want, first)
			}
			overwrite(first)
			marks := w.r.Marks()
			overwrite(w.r.Marks())
			overwrite(was.r.Marks())
			if !slices.Equal(marks, w.want.marks) {
				t.Fatalf("the marks were %v, and are %v then", w.want.marks, marks)
			}
			w.same(t)
			was.same(t)
			was.do(t, l...)
			was.same(t)
		}
	}
}

// Marks that were answered stay as they are, whatever the router takes then.
func TestMarksStay(t *testing.T) {
	w := fromTwin(t, job(), 2, []int64{1, 2}, 3)
	d := w.copied(t)
	marks, other := w.r.Marks(), d.r.Marks()
	w.do(t, mark(0, 50), mark(1, 60))
	if want := []int64{1, 2}; !slices.Equal(marks, want) || !slices.Equal(other, want) {
		t.Errorf("the marks are %v, %v then", marks, other)
	}
	d.same(t)
}

// What is handed in stays, the room behind it included, and is not kept.
func TestWhatIsHandedIn(t *testing.T) {
	for _, c := range kinds() {
		marks := []int64{5, 3, 99, 98}
		list := []api.Item{event("a", 4, 1), mark(1, 14), mark(0, 7), event("d", 40, 1), save(), event("room", 1, 1)}
		wasMarks, wasList := slices.Clone(marks), slices.Clone(list)
		w := fromTwin(t, c, 2, marks[:2], 8)
		w.do(t, list[:5]...)
		w.do(t, slices.Insert(slices.Clone(list), 2, api.Item{})...)
		if !slices.Equal(marks, wasMarks) || !slices.Equal(list, wasList) {
			t.Errorf("of %+v what was handed in is %v, %v then", c, marks, list)
		}
		w = fromTwin(t, c, 2, marks[:2], 8)
		clear(marks)
		w.same(t)
		sent := w.do(t, list[:5]...)
		want := slices.Clone(sent)
		clear(list)
		w.same(t)
		if !slices.Equal(sent, want) {
			t.Errorf("of %+v %v was sent, and is %v then", c, want, sent)
		}
	}
}

// Texts, too: none that was handed in is handed on, and each one that is answered stands by itself.
func TestKeysAreNewMemory(t *testing.T) {
	long := strings.Repeat("key", 50)
	seen := map[*byte]bool{unsafe.StringData(long): true}
	tell := func(l []api.Sent) {
		t.Helper()
		for _, s := range l {
			at := unsafe.StringData(s.Msg.Key)
			if s.Msg.Key != long || seen[at] {
				t.Errorf("the key of %v is another one, or stands in memory that is known", s)
			}
			seen[at] = true
		}
	}
	r, _ := route.New(job(), 4)
	from, _ := route.From(job(), 2, []int64{1, 2}, 3)
	for range 2 {
		for _, x := range []*route.Router{r, r.Copy(), from} {
			l, _, _ := x.Items(event(long, 3, 1), event(long, 4, 1), event(long, 3, 1))
			tell(l)
			l, _ = x.Item(event(long, 3, 1))
			tell(l)
		}
	}
	if len(seen) != 25 {
		t.Errorf("%d keys were seen", len(seen))
	}
}

// A text whose bytes are written over when the call has answered is in no message any more.
func TestTextsAreNotKept(t *testing.T) {
	r, _ := route.New(job(), 4)
	spoilt := []byte("key")
	name := unsafe.String(&spoilt[0], len(spoilt))
	worker, _ := r.Worker(name)
	l, _, _ := r.Items(event(name, 3, 1), event(name, 4, 2))
	spoilt[1] = '?'
	if want := []api.Sent{fell(worker, 0, "key", 3, 1), fell(worker, 1, "key", 4, 2)}; !slices.Equal(l, want) {
		t.Errorf("%v is sent then", l)
	}
	if again, _ := r.Worker("key"); again != worker {
		t.Errorf("the worker of the key is %d, and %d then", worker, again)
	}
}

// A router that nobody changes is read by many at a time, while copies of it go on.
func TestReadSideBySide(t *testing.T) {
	w := fromTwin(t, job(), 2, []int64{7, 3}, 9)
	var all sync.WaitGroup
	right := make([]int, 8)
	for g := range right {
		all.Go(func() {
			for i := range int64(50) {
				d := w.r.Copy()
				d.Items(event("a", 50+i, 1), mark(1, 4+i), save())
				n, _ := w.r.Worker("d")
				if n == 1 && w.r.Seq() == 9 && w.r.Watermark() == 3 && slices.Equal(w.r.Marks(), []int64{7, 3}) && d.Seq() == 12 {
					right[g]++
				}
			}
		})
	}
	all.Wait()
	for g, n := range right {
		if n != 50 {
			t.Errorf("the reader %d finds what must be %d times", g, n)
		}
	}
	w.same(t)
}
