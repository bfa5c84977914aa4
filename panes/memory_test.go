package panes_test

import (
	"math/rand"
	"slices"
	"strings"
	"sync"
	"testing"
	"unsafe"

	"keepsake/api"
	"keepsake/panes"
)

// texts gathers where each text and list of answers begins, and tells whether two of them are in one place.
type texts struct {
	seen map[*byte]bool
}

func (x *texts) add(t *testing.T, s string) {
	t.Helper()
	if s == "" {
		return
	}
	at := unsafe.StringData(s)
	if x.seen[at] {
		t.Errorf("the text %q shares memory", s)
	}
	x.seen[at] = true
}

func (x *texts) list(t *testing.T, l []api.Pane) {
	t.Helper()
	for _, p := range l {
		x.add(t, p.Key)
	}
}

// Rule of memory: what is told shares no text with what was handed in, with another answer or within itself.
func TestAnswersShareNoTexts(t *testing.T) {
	key := strings.Repeat("k", 20)
	list := []api.Pane{of(key, 1), of("bb", 1), of(key, 2), of(key, 2)}
	x := &texts{map[*byte]bool{}}
	x.add(t, key)
	x.seen[unsafe.StringData(list[1].Key)] = true
	for range 2 {
		for _, row := range panes.Keys(list) {
			x.add(t, row.Key)
			x.list(t, row.Panes)
		}
		x.list(t, panes.Of(list, key))
		x.list(t, panes.Last(list))
		text, _ := panes.Text(list...)
		x.add(t, text)
		line, _ := panes.Line(list[0])
		x.add(t, line)
		p, _ := panes.Parse(line)
		x.add(t, p.Key)
		l, _, _ := panes.Read(text)
		x.list(t, l)
	}
	// A key that stands in its line as it is isn't a part of the line.
	text := `"` + key + `" late 0 0 0 0 0 0 0` + "\n"
	from, until := uintptr(unsafe.Pointer(unsafe.StringData(text))), uintptr(len(text))
	p, _ := panes.Parse(text[:len(text)-1])
	l, _, _ := panes.Read(text)
	for _, s := range []string{p.Key, l[0].Key} {
		if at := uintptr(unsafe.Pointer(unsafe.StringData(s))); at >= from && at < from+until {
			t.Error("a key is a part of what was handed in")
		}
	}
}

// overwrite fills a list and its spare room.
func overwrite(l []api.Pane) {
	for i := range l[:cap(l)] {
		l[:cap(l)][i] = api.Pane{Key: "overwritten", Kind: 9}
	}
}

// Rule of memory: answers may be overwritten, spare room and all, and nothing else is changed by it.
func TestAnswersAreNew(t *testing.T) {
	d := newDrawer(rand.New(rand.NewSource(1)))
	list := d.list(30)
	was := slices.Clone(list)
	for range 2 {
		rows, want := panes.Keys(list), keysOf(list)
		for i := range rows {
			overwrite(rows[i].Panes)
			for _, k := range rows[i+1:] {
				if !slices.Equal(k.Panes, ofKey(was, k.Key)) {
					t.Errorf("the panes of %q are changed by those of %q", k.Key, rows[i].Key)
				}
			}
		}
		clear(rows[:cap(rows)])
		if again := panes.Keys(list); !sameRows(again, want) {
			t.Errorf("Keys is %v", again)
		}
		overwrite(panes.Of(list, list[0].Key))
		overwrite(panes.Last(list))
		text, _ := panes.Text(list...)
		read, _, _ := panes.Read(text)
		overwrite(read)
		if !slices.Equal(list, was) {
			t.Fatalf("the list is changed: %v", list)
		}
		told(t, list)
		gone(t, text)
	}
}

// Rule of memory: what is handed in is not changed, spare room included, and not kept.
func TestHandedInStays(t *testing.T) {
	d := newDrawer(rand.New(rand.NewSource(2)))
	whole := d.list(40)
	was := slices.Clone(whole)
	list := whole[5:20]
	other := whole[20:30]
	panes.Text(list...)
	panes.Keys(list)
	panes.Of(list, list[3].Key)
	panes.Last(list)
	panes.Alike(list, other)
	panes.Alike(list, list)
	panes.Begins(list, whole)
	panes.Begins(whole, list)
	if !slices.Equal(whole, was) {
		t.Error("what was handed in is changed")
	}
	rows, of, last := panes.Keys(list), panes.Of(list, list[3].Key), panes.Last(list)
	text, _ := panes.Text(list...)
	overwrite(whole)
	list = was[5:20]
	if !sameRows(rows, keysOf(list)) || !slices.Equal(of, ofKey(list, list[3].Key)) || !slices.Equal(last, lastOf(list)) || text != textOf(list) {
		t.Error("what was handed in is kept")
	}
}

// Rules: what is told hangs on the arguments alone; goroutines may ask at once.
func TestSideBySide(t *testing.T) {
	d := newDrawer(rand.New(rand.NewSource(3)))
	list := d.list(50)
	text := textOf(list)
	mixed := d.mixed(list)
	var group sync.WaitGroup
	for range 8 {
		group.Add(1)
		go func() {
			defer group.Done()
			for range 5 {
				told(t, list)
				held(t, list, mixed)
				gone(t, text)
				compared(t, list[0], list[1])
				written(t, list[2])
			}
		}()
	}
	group.Wait()
}
