package plain_test

import (
	"slices"
	"strings"
	"sync"
	"testing"
	"unsafe"

	"keepsake/api"
	"keepsake/plain"
)

// overwrite writes over a list, the room behind it included.
func overwrite[E any](l []E) { clear(l[:cap(l)]) }

// overwriteState writes over all lists of a state.
func overwriteState(s api.State) {
	overwrite(s.Marks)
	for _, k := range s.Keys {
		overwrite(k.Windows)
	}
	overwrite(s.Keys)
}

// overwriteAnswers writes over all that a job answers.
func overwriteAnswers(j *plain.Job) {
	overwrite(j.Panes())
	overwriteState(j.State())
	saved := j.Saved()
	for _, s := range saved {
		overwriteState(s)
	}
	overwrite(saved)
	for _, name := range []string{"a", "b", "nobody"} {
		k, _, _ := j.Key(name)
		overwrite(k.Windows)
	}
}

// What is answered is nobody else's: a job does not mind what becomes of it.
func TestAnswersAreNewMemory(t *testing.T) {
	for _, c := range kinds() {
		w := newTwin(t, with(c, 1, false))
		for i := range int64(12) {
			overwrite(w.do(t, event("a", 3*i, 1), event("b", 3*i, 1), save(), mark(2*i)))
			overwrite(w.do(t, event("a", 3*i, 1)))
			d := w.copied(t)
			overwriteAnswers(w.j)
			w.same(t)
			d.same(t)
			overwriteAnswers(d.j)
			w.same(t)
			d.same(t)
			s := w.j.State()
			from := fromTwin(t, s)
			overwriteState(s)
			from.same(t)
			overwriteAnswers(from.j)
			w.same(t)
		}
		l, s, _ := plain.Run(c, event("a", 3, 1), mark(200))
		m, u, _ := plain.Run(c, event("a", 3, 1), mark(200))
		overwrite(l)
		overwriteState(s)
		want := modelOf(begin(c))
		told, _ := want.items(event("a", 3, 1), mark(200))
		if !slices.Equal(m, told) || !sameState(u, want.State) {
			t.Errorf("writing over what Run answered makes another answer %v, %+v", m, u)
		}
	}
}

// An answer stays as it is, whatever is done to the job then.
func TestAnswersStay(t *testing.T) {
	for _, c := range kinds() {
		w := newTwin(t, with(c, 1, false))
		first := w.do(t, event("a", 3, 1), event("b", 4, 1), save())
		was := w.want.copied()
		all, s, saved := w.j.Panes(), w.j.State(), w.j.Saved()
		k, _, _ := w.j.Key("a")
		wantKey, _, _ := was.key("a")
		for i := range int64(20) {
			w.do(t, event("a", 3+i, 1), save(), mark(i), event("b", i, 9))
		}
		if !slices.Equal(first, was.panes) || !slices.Equal(all, was.panes) || !sameState(s, was.State) || !sameStates(saved, was.saved) || !sameKey(k, wantKey) {
			t.Errorf("of %+v answers are others then: %v, %v, %+v, %+v, %+v", c, first, all, s, saved, k)
		}
	}
}

// What is handed in stays, the room behind it included, and is not kept.
func TestWhatIsHandedIn(t *testing.T) {
	for _, c := range kinds() {
		wins := []api.Win{win(3, 13, 1, 1, 1, 1, 1, 0, 3), win(13, 23, 1, 1, 1, 1, 1, 0, 13), win(77, 78, 1, 1, 1, 1, 1, 0, 77)}
		keys := []api.KeyState{key("a", 1, wins[:2]...), key("b", 1), key("room", 1)}
		marks := []int64{5, 99, 98}
		list := []api.Item{event("a", 4, 1), mark(14), event("b", 40, 1), save(), event("room", 1, 1)}
		wasWins, wasKeys, wasMarks, wasList := slices.Clone(wins), slices.Clone(keys), slices.Clone(marks), slices.Clone(list)
		s := state(c, marks[:1], keys[:2]...)
		w := fromTwin(t, s)
		w.do(t, list[:4]...)
		w.do(t, event("a", 20, 1), mark(50))
		if !slices.Equal(wins, wasWins) || !slices.EqualFunc(keys, wasKeys, sameKey) || !slices.Equal(marks, wasMarks) || !slices.Equal(list, wasList) {
			t.Errorf("of %+v what was handed in is %v, %v, %v, %v then", c, wins, keys, marks, list)
		}
		w = fromTwin(t, s)
		w.do(t, list[:4]...)
		clear(wins)
		clear(keys)
		clear(marks)
		clear(list)
		w.same(t)
		w.do(t, event("a", 20, 1), mark(50))
		w.same(t)
	}
}

// Texts, too: none that was handed in is kept, and each one that is answered stands by itself.
func TestKeysAreNewMemory(t *testing.T) {
	long := strings.Repeat("key", 50)
	seen := map[*byte]int{unsafe.StringData(long): 1}
	tell := func(who, name string) {
		t.Helper()
		seen[unsafe.StringData(name)]++
		if name != long || seen[unsafe.StringData(name)] != 1 {
			t.Errorf("the key that %s tells is another one, or stands in memory that is known", who)
		}
	}
	tellPanes := func(who string, l []api.Pane) {
		for _, p := range l {
			tell(who, p.Key)
		}
	}
	j, _ := plain.New(with(sliding(), 1, false))
	from, _ := plain.From(state(sliding(), []int64{0}, key(long, 1, win(0, 10, 1, 1, 1, 1, 1, 0, 3))))
	for range 2 {
		for _, x := range []*plain.Job{j, j.Copy(), from} {
			l, _ := x.Items(event(long, 3, 1), event(long, 4, 1), save(), mark(10))
			tellPanes("Items", l)
			l, _ = x.Item(event(long, 7, 1))
			tellPanes("Item", l)
			tellPanes("Panes", x.Panes())
			k, _, _ := x.Key(long)
			tell("Key", k.Key)
			for _, s := range append(x.Saved(), x.State()) {
				tell("a state", s.Keys[0].Key)
			}
		}
	}
	none, _ := plain.New(sliding())
	k, _, _ := none.Key(long)
	tell("Key of no key", k.Key)
	l, s, _ := plain.Run(sliding(), event(long, 3, 1), mark(10))
	tellPanes("Run", l)
	tell("Run", s.Keys[0].Key)
}

// A text whose bytes are written over when the call has answered is nobody's key any more.
func TestTextsAreNotKept(t *testing.T) {
	for _, c := range kinds() {
		spoilt := []byte("key")
		name := unsafe.String(&spoilt[0], len(spoilt))
		j, _ := plain.New(c)
		j.Items(event(name, 3, 1), event(name, 4, 1), save())
		from, _ := plain.From(state(c, []int64{0}, key(name, 2, win(3, 13, 1, 1, 1, 1, 1, 0, 3))))
		from.Items(event(name, 3, 1), save())
		spoilt[1] = '?'
		for _, x := range []*plain.Job{j, from} {
			told, _ := x.Items(event("key", 5, 1), mark(300))
			if k, _, _ := x.Key("k?y"); k.Dropped != 0 || len(k.Windows) != 0 {
				t.Errorf("of %+v there is %+v", c, k)
			}
			for _, s := range append(x.Saved(), x.State()) {
				if len(s.Keys) > 1 || len(s.Keys) == 1 && s.Keys[0].Key != "key" {
					t.Errorf("of %+v a state is %+v", c, s)
				}
			}
			if len(ofKey(told, "key")) != len(told) || len(told) == 0 {
				t.Errorf("of %+v %v are told", c, told)
			}
		}
	}
}

// A list without anything in it is nil in every answer, so that answers that are alike are alike to all who compare them.
func TestEmptyListsAreNil(t *testing.T) {
	s := state(example(), []int64{18}, key("a", 1))
	s.Keys[0].Windows = []api.Win{}
	from, _ := plain.From(s)
	j, _ := plain.New(example())
	j.Items(event("a", 3, 1), mark(18), event("a", 3, 1), save())
	for _, x := range []*plain.Job{j, from, from.Copy()} {
		if k := x.State().Keys; len(k) != 1 || k[0].Windows != nil {
			t.Errorf("the keys are %#v", k)
		}
		if k, _, _ := x.Key("a"); k.Windows != nil || k.Dropped != 1 {
			t.Errorf("the key a is %#v", k)
		}
	}
	if k := j.Saved()[0].Keys[0]; k.Windows != nil || k.Dropped != 1 {
		t.Errorf("what is saved of the key a is %#v", k)
	}
	if from.Panes() != nil || from.Saved() != nil {
		t.Errorf("what was told and saved is %#v, %#v", from.Panes(), from.Saved())
	}
	if l, e := from.Items(); l != nil || e != api.OK {
		t.Errorf("Items() is %#v, %d", l, e)
	}
	empty := begin(example())
	empty.Keys = []api.KeyState{}
	from, _ = plain.From(empty)
	if k := from.State().Keys; k != nil {
		t.Errorf("the keys are %#v", k)
	}
}

// A job that nobody changes is read by many at a time, while copies of it go on.
func TestReadSideBySide(t *testing.T) {
	w := newTwin(t, with(sliding(), 2, false))
	for i := range int64(50) {
		w.do(t, event(string(rune('a'+i%26)), i, i), event("a", i, 1), mark(i-20))
		if i%10 == 0 {
			w.do(t, save())
		}
	}
	var all sync.WaitGroup
	right := make([]int, 8)
	for g := range right {
		all.Go(func() {
			for i := range int64(20) {
				d := w.j.Copy()
				d.Items(event("a", 50+i, 1), event("new", 50, 1), mark(40+i), save())
				m := w.want
				if w.j.Out() == m.out() && w.j.Mark() == m.watermark() && w.j.Done() == m.done && slices.Equal(w.j.Panes(), m.panes) && sameState(w.j.State(), m.State) && sameStates(w.j.Saved(), m.saved) {
					right[g]++
				}
			}
		})
	}
	all.Wait()
	for g, n := range right {
		if n != 20 {
			t.Errorf("the reader %d finds what must be %d times", g, n)
		}
	}
	w.same(t)
}
