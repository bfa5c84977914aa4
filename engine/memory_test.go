package engine_test

import (
	"math/rand"
	"slices"
	"strings"
	"sync"
	"testing"
	"unsafe"

	"keepsake/api"
	"keepsake/engine"
)

// P17.7: a nil engine, and one that no call of the package made.
func TestNoEngine(t *testing.T) {
	var none *engine.Engine
	var zero engine.Engine
	for _, e := range []*engine.Engine{none, &zero, new(engine.Engine)} {
		for _, l := range [][]api.Item{nil, items(event("a", 3, 1)), {{}}} {
			if err := e.Feed(l...); err != api.ErrNil {
				t.Errorf("Feed(%v) is %d", l, err)
			}
		}
		for _, n := range []int{least, -1, 0, 1, greatest} {
			if ok, err := e.Step(n); ok || err != api.ErrNil {
				t.Errorf("Step(%d) is %t, %d", n, ok, err)
			}
			if s, err := e.Saved(n); !sameState(s, api.State{}) || err != api.ErrNil {
				t.Errorf("Saved(%d) is %+v, %d", n, s, err)
			}
			if e.ToDo(n) != 0 || e.Picks(n, n) != 0 {
				t.Errorf("ToDo, Picks are %d, %d", e.ToDo(n), e.Picks(n, n))
			}
		}
		if err := e.Drain(); err != api.ErrNil {
			t.Errorf("Drain is %d", err)
		}
		if s, err := e.State(); !sameState(s, api.State{}) || err != api.ErrNil {
			t.Errorf("State is %+v, %d", s, err)
		}
		if e.Config() != (api.Config{}) || e.Workers() != 0 || e.Fed() != 0 || e.Told() != nil || e.Panes("") != nil || e.Panes("a") != nil || e.Out() != 0 || e.Saves() != 0 || e.Copy() != nil {
			t.Errorf("it tells %+v, %d, %d, %v, %v, %d, %d, %v", e.Config(), e.Workers(), e.Fed(), e.Told(), e.Panes("a"), e.Out(), e.Saves(), e.Copy())
		}
	}
}

// P17.7: a copy stands where its origin does, with all that was fed, told and saved; what is done to one is not seen in the other, whichever is changed first.
func TestCopiesGoOnApart(t *testing.T) {
	for _, c := range kinds() {
		c = with(c, 2, true)
		a := newTwin(t, c, 2)
		a.feed(t, event("a", 3, 5), event("d", 4, 1), save(), mark(5), save(), event("a", 9, 1), event("d", 9, 1))
		a.picks(t, 0, 0, 1, 1, 0, 0)
		b := a.copied(t)
		b.same(t)
		if b.e.Fed() != 7 || b.e.Saves() != 1 || b.e.ToDo(0) != 1 || b.e.ToDo(1) != 3 {
			t.Errorf("a copy has %d items, %d saves, %d and %d to do", b.e.Fed(), b.e.Saves(), b.e.ToDo(0), b.e.ToDo(1))
		}
		a.picks(t, 0, 1, 1)
		b.same(t)
		b.feed(t, event("a", 4, 7), mark(300), save())
		a.same(t)
		b.picks(t, 1, 1, 1, 1)
		a.same(t)
		d := b.copied(t)
		b.drain(t)
		a.same(t)
		d.same(t)
		a.feed(t, mark(200), event("d", 9, 9), save(), save())
		a.drain(t)
		b.same(t)
		d.same(t)
		d.picks(t, 0, 0)
		d.drain(t)
		for _, w := range []twin{a, b, d} {
			w.same(t)
		}
	}
}

// A save that some workers have done when the copy is made is gathered by both, each on its own.
func TestCopiesInTheMidstOfASave(t *testing.T) {
	a := newTwin(t, example(), 2)
	a.feed(t, event("a", 3, 1), event("d", 3, 1), save())
	a.picks(t, 0, 0)
	b := a.copied(t)
	a.picks(t, 1, 1)
	want := state(example(), []int64{minTime}, key("a", 0, one(3, 13, 3)), key("d", 0, one(3, 13, 3)))
	a.saved(t, 0, want)
	b.notSaved(t, 0, map[int]api.Errno{0: api.ErrBusy, 1: api.ErrArg})
	b.feed(t, event("d", 4, 1))
	b.drain(t)
	b.saved(t, 0, want)
	a.saved(t, 0, want)
}

// A whole family, copied from one another, each with its own items and picks: whatever room is left behind what is to do, told and saved.
func TestCopiesOfCopies(t *testing.T) {
	r := rand.New(rand.NewSource(1))
	for i := range 60 {
		d := newDrawer(r, i%3 == 0)
		family := []twin{d.twin(t)}
		for range 80 {
			w := family[r.Intn(len(family))]
			if r.Intn(6) == 0 && len(family) < 8 {
				family = append(family, w.copied(t))
			}
			w.feed(t, d.items(r.Intn(3))...)
			w.picks(t, d.picks(r.Intn(4))...)
			family[r.Intn(len(family))].same(t)
		}
		for _, w := range family {
			w.drain(t)
		}
		for _, w := range family {
			w.same(t)
		}
	}
}

// Two engines have nothing to do with one another, not even such as stand at one state.
func TestEnginesGoOnApart(t *testing.T) {
	s := state(example(), []int64{5}, key("a", 0, one(3, 13, 3)))
	a, b := fromTwin(t, s, 2), fromTwin(t, s, 2)
	a.feed(t, event("a", 3, 1), mark(13), save())
	a.drain(t)
	b.same(t)
	b.feed(t, event("d", 3, 1))
	b.drain(t)
	a.same(t)
	b.same(t)
}

// An engine that is assigned is the same one: nothing goes astray between the two.
func TestAssignedEngine(t *testing.T) {
	a := newTwin(t, example(), 2)
	a.feed(t, event("a", 3, 1), save(), mark(13))
	other := *a.e
	b := twin{&other, a.want}
	for i := range int64(5) {
		a.feed(t, event("a", 3, i), save())
		a.picks(t, 0, 1)
		b.same(t)
		b.feed(t, event("d", 4, i), save())
		b.picks(t, 1, 0, 0)
		a.same(t)
	}
}

// overwrite writes over a list, the room behind it included.
func overwrite[E any](l []E) { clear(l[:cap(l)]) }

// overwriteState writes over all lists of a state.
func overwriteState(s api.State) {
	overwrite(s.Marks)
	for _, k := range s.Keys {
		overwrite(k.Windows)
	}
	overwrite(s.Keys)
}

// overwriteAnswers writes over all that an engine answers.
func overwriteAnswers(e *engine.Engine) {
	overwrite(e.Told())
	for _, name := range []string{"a", "d", "nobody"} {
		overwrite(e.Panes(name))
	}
	s, _ := e.State()
	overwriteState(s)
	for n := range e.Saves() {
		s, _ := e.Saved(n)
		overwriteState(s)
	}
}

// What is answered is nobody else's: an engine does not mind what becomes of it.
func TestAnswersAreNewMemory(t *testing.T) {
	for _, c := range kinds() {
		w := newTwin(t, with(c, 1, false), 2)
		for i := range int64(12) {
			w.feed(t, event("a", 3*i, 1), event("d", 3*i, 1), save(), mark(2*i), event("a", 3*i, 1))
			w.picks(t, 0, 1, 0, 0, 1)
			if i%2 == 0 {
				w.drain(t)
			}
			d := w.copied(t)
			overwriteAnswers(w.e)
			w.same(t)
			d.same(t)
			overwriteAnswers(d.e)
			w.same(t)
			d.same(t)
			if i%2 == 0 {
				s, _ := w.e.State()
				from := fromTwin(t, s, 3)
				overwriteState(s)
				from.same(t)
				overwriteAnswers(from.e)
				w.same(t)
			}
		}
	}
}

// An answer stays as it is, whatever the engine does then.
func TestAnswersStay(t *testing.T) {
	for _, c := range kinds() {
		w := newTwin(t, with(c, 1, false), 2)
		w.feed(t, event("a", 3, 1), event("d", 4, 1), save())
		w.drain(t)
		was := w.want.copied()
		told, own := w.e.Told(), w.e.Panes("a")
		s, _ := w.e.State()
		saved, _ := w.e.Saved(0)
		for i := range int64(20) {
			w.feed(t, event("a", 3+i, 1), save(), mark(i), event("d", i, 9))
			w.drain(t)
		}
		wantState, _ := was.state()
		wantSaved, _ := was.saved(0)
		if !slices.Equal(told, was.told) || !slices.Equal(own, was.panes("a")) || !sameState(s, wantState) || !sameState(saved, wantSaved) || len(s.Keys) != 2 {
			t.Errorf("of %+v answers are others then: %v, %v, %+v, %+v", c, told, own, s, saved)
		}
	}
}

// What is handed in stays, the room behind it included, and is not kept.
func TestWhatIsHandedIn(t *testing.T) {
	for _, c := range kinds() {
		wins := []api.Win{one(3, 13, 3), one(13, 23, 13), one(77, 78, 77)}
		keys := []api.KeyState{key("a", 1, wins[:2]...), key("d", 1), key("room", 1)}
		marks := []int64{5, 99, 98}
		list := items(event("a", 4, 1), mark(14), event("d", 40, 1), save(), event("room", 1, 1))
		picks := []int{0, 0, 1, 77}
		wasWins, wasKeys, wasMarks, wasList, wasPicks := slices.Clone(wins), slices.Clone(keys), slices.Clone(marks), slices.Clone(list), slices.Clone(picks)
		s := state(c, marks[:1], keys[:2]...)
		w := fromTwin(t, s, 2)
		w.feed(t, list[:4]...)
		w.picks(t, picks[:3]...)
		w.feed(t, event("a", 20, 1), mark(50), save())
		w.drain(t)
		w.same(t)
		if !slices.Equal(wins, wasWins) || !slices.EqualFunc(keys, wasKeys, sameKey) || !slices.Equal(marks, wasMarks) || !slices.Equal(list, wasList) || !slices.Equal(picks, wasPicks) {
			t.Errorf("of %+v what was handed in is %v, %v, %v, %v, %v then", c, wins, keys, marks, list, picks)
		}
		w = fromTwin(t, s, 2)
		w.feed(t, list[:4]...)
		w.picks(t, picks[:3]...)
		clear(wins)
		clear(keys)
		clear(marks)
		clear(list)
		clear(picks)
		w.same(t)
		w.feed(t, event("a", 20, 1), mark(50))
		w.drain(t)
		w.same(t)
	}
}

// Texts, too: none that was handed in is kept, and each one that is answered stands by itself.
func TestKeysAreNewMemory(t *testing.T) {
	long := strings.Repeat("key", 50)
	seen := map[*byte]int{unsafe.StringData(long): 1}
	told := 0
	tell := func(who, name string) {
		t.Helper()
		told++
		seen[unsafe.StringData(name)]++
		if name != long || seen[unsafe.StringData(name)] != 1 {
			t.Errorf("the key that %s tells is another one, or stands in memory that is known", who)
		}
	}
	c := with(sliding(), 1, false)
	first, _ := engine.New(c, 2)
	from, _ := engine.From(state(c, []int64{0}, key(long, 1, one(0, 10, 3))), 2)
	for range 2 {
		for _, e := range []*engine.Engine{first, first.Copy(), from, from.Copy()} {
			e.Feed(event(long, 3, 1), save(), mark(10), event(long, 7, 1))
			e.Drain()
			for range 2 {
				for _, x := range e.Told() {
					tell("Told", x.Pane.Key)
				}
				for _, p := range e.Panes(long) {
					tell("Panes", p.Key)
				}
				s, _ := e.State()
				tell("State", s.Keys[0].Key)
				s, _ = e.Saved(0)
				tell("Saved", s.Keys[0].Key)
			}
		}
	}
	if told < 100 {
		t.Errorf("%d keys were told", told)
	}
}

// A text whose bytes are written over when the call has answered is nobody's key any more, though nobody has done its events yet.
func TestTextsAreNotKept(t *testing.T) {
	for _, c := range kinds() {
		spoilt := []byte("key")
		name := unsafe.String(&spoilt[0], len(spoilt))
		first, _ := engine.New(c, 3)
		first.Feed(event(name, 3, 1), event(name, 4, 1), save())
		at := owner("key", 3, 4)
		first.Step(at)
		from, _ := engine.From(state(c, []int64{0}, key(name, 2, one(3, 13, 3))), 3)
		from.Feed(event(name, 3, 1), save())
		first.Panes(name)
		spoilt[1] = '?'
		for _, e := range []*engine.Engine{first, from} {
			e.Feed(event("key", 5, 1), mark(300))
			e.Drain()
			if l := e.Panes("key"); len(l) == 0 || len(l) != len(e.Told()) || slices.ContainsFunc(l, func(p api.Pane) bool { return p.Key != "key" }) {
				t.Errorf("of %+v %v are told", c, e.Told())
			}
			if l := e.Panes("k?y"); l != nil {
				t.Errorf("of %+v %v are told", c, l)
			}
			saved, _ := e.Saved(0)
			if len(saved.Keys) != 1 || saved.Keys[0].Key != "key" {
				t.Errorf("of %+v a save is %+v", c, saved)
			}
		}
	}
}

// A list without anything in it is nil in every answer, so that answers that are alike are alike to all who compare them.
func TestEmptyListsAreNil(t *testing.T) {
	s := state(example(), []int64{18}, key("a", 1))
	s.Keys[0].Windows = []api.Win{}
	from, _ := engine.From(s, 2)
	first, _ := engine.New(example(), 2)
	first.Feed(event("a", 3, 1), mark(18), event("a", 3, 1), save())
	first.Drain()
	from.Feed(save())
	from.Drain()
	for _, e := range []*engine.Engine{first, from, from.Copy(), first.Copy()} {
		now, _ := e.State()
		saved, _ := e.Saved(0)
		for _, s := range []api.State{now, saved} {
			if len(s.Keys) != 1 || s.Keys[0].Windows != nil || s.Keys[0].Dropped != 1 {
				t.Errorf("the keys are %#v", s.Keys)
			}
		}
		if e.Panes("d") != nil {
			t.Errorf("Panes are %#v", e.Panes("d"))
		}
	}
	if from.Told() != nil {
		t.Errorf("Told are %#v", from.Told())
	}
	empty := begin(example())
	empty.Keys = []api.KeyState{}
	from, _ = engine.From(empty, 4)
	if s, _ := from.State(); s.Keys != nil {
		t.Errorf("the keys are %#v", s.Keys)
	}
}

// An engine that nobody changes is read by many at a time, while copies of it go on.
func TestReadSideBySide(t *testing.T) {
	w := newTwin(t, with(sliding(), 2, false), 3)
	for i := range int64(50) {
		w.feed(t, event(string(rune('a'+i%26)), i, i), event("a", i, 1), mark(i-20))
		if i%10 == 0 {
			w.feed(t, save())
		}
	}
	w.drain(t)
	m := w.want
	want, _ := m.state()
	wantSaved, _ := m.saved(1)
	var all sync.WaitGroup
	right := make([]int, 8)
	for g := range right {
		all.Go(func() {
			for i := range int64(20) {
				d := w.e.Copy()
				d.Feed(event("a", 50+i, 1), event("new", 50, 1), mark(40+i), save())
				d.Drain()
				s, _ := w.e.State()
				saved, _ := w.e.Saved(1)
				if sameState(s, want) && sameState(saved, wantSaved) && slices.Equal(w.e.Told(), m.told) && slices.Equal(w.e.Panes("a"), m.panes("a")) && w.e.Out() == m.out() && w.e.Saves() == 5 && w.e.Fed() == len(m.items) {
					right[g]++
				}
			}
		})
	}
	all.Wait()
	for g, n := range right {
		if n != 20 {
			t.Errorf("the reader %d finds what must be %d times", g, n)
		}
	}
	w.same(t)
}

// Copies that are made in the midst of a save go on at the same time as their origin: nothing is written by one that another one reads.
func TestGoOnSideBySide(t *testing.T) {
	w := newTwin(t, with(example(), 1, false), 4)
	w.feed(t, event("a", 3, 1), event("d", 3, 1), save(), mark(13), event("a", 4, 1), save(), event("d", 4, 1))
	w.picks(t, 0, 0, 1, 0)
	family := []twin{w}
	for range 7 {
		family = append(family, w.copied(t))
	}
	var all sync.WaitGroup
	for i, w := range family {
		all.Go(func() {
			at := int64(i)
			w.e.Feed(event("a", 20+at, at), save())
			w.e.Picks(3, 2, 1, 0, 3, 2, 1, 0)
			w.e.Drain()
		})
	}
	all.Wait()
	for i, w := range family {
		at := int64(i)
		w.want.feed(event("a", 20+at, at), save())
		for _, n := range []int{3, 2, 1, 0, 3, 2, 1, 0} {
			w.want.step(n)
		}
		w.want.drain()
		w.same(t)
	}
}
