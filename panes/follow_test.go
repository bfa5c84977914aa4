package panes_test

import (
	"math/rand"
	"slices"
	"testing"

	"keepsake/api"
	"keepsake/panes"
)

// P18.6: Parse of Line is the pane, Read of Text the panes, Text of what Read tells the text.
func TestBackAndForth(t *testing.T) {
	for seed := range int64(300) {
		d := newDrawer(rand.New(rand.NewSource(seed)))
		list := d.list(d.Intn(10))
		text, e := panes.Text(list...)
		again, n, f := panes.Read(text)
		back, g := panes.Text(again...)
		if e != api.OK || f != api.OK || g != api.OK || !slices.Equal(again, list) || n != len(list) || back != text {
			t.Errorf("%v is written %q, read %v, %d: %d %d %d", list, text, again, n, e, f, g)
		}
		lines := ""
		for _, p := range list {
			line, e := panes.Line(p)
			q, f := panes.Parse(line)
			if p != q || e != api.OK || f != api.OK {
				t.Errorf("%+v is written %q, read %+v: %d, %d", p, line, q, e, f)
			}
			lines += line + "\n"
		}
		if lines != text {
			t.Errorf("Text is %q, the lines are %q", text, lines)
		}
	}
}

// P18.6: Keys' lists are together just the list; each is what Of tells; Last of all keys is the keys' Last, one behind the other.
func TestKeysAreTheList(t *testing.T) {
	for seed := range int64(300) {
		d := newDrawer(rand.New(rand.NewSource(seed)))
		list := d.list(d.Intn(30))
		var together, last []api.Pane
		for i, row := range panes.Keys(list) {
			if !slices.Equal(row.Panes, panes.Of(list, row.Key)) || len(row.Panes) == 0 {
				t.Errorf("the row %d of %v is %v", i, list, row)
			}
			together = append(together, row.Panes...)
			last = append(last, panes.Last(row.Panes)...)
		}
		if !slices.Equal(last, panes.Last(list)) {
			t.Errorf("Last is %v, of the rows %v", panes.Last(list), last)
		}
		if !panes.Alike(together, list) {
			t.Errorf("%v and its rows %v are not alike", list, together)
		}
		sorted := slices.Clone(list)
		slices.SortFunc(sorted, panes.Compare)
		slices.SortFunc(together, panes.Compare)
		if !slices.Equal(sorted, together) {
			t.Errorf("the rows of %v are together %v", sorted, together)
		}
	}
}

// P18.6: alike lists have the same Keys and Last; lists are alike just if each begins the other, and if their Keys are the same.
func TestAlikeLists(t *testing.T) {
	for seed := range int64(300) {
		d := newDrawer(rand.New(rand.NewSource(seed)))
		list := d.list(d.Intn(8))
		lists := [][]api.Pane{list, d.mixed(list), d.mixed(list), d.list(d.Intn(8)), list[:len(list)/2], d.mixed(list)[len(list)/2:], nil}
		for _, a := range lists {
			if !panes.Alike(a, a) {
				t.Errorf("%v is not alike itself", a)
			}
			for _, b := range lists {
				alike := panes.Alike(a, b)
				if alike != panes.Alike(b, a) || alike != (panes.Begins(a, b) && panes.Begins(b, a)) || alike != sameRows(panes.Keys(a), panes.Keys(b)) {
					t.Errorf("Alike(%v, %v) is %t", a, b, alike)
				}
				if alike && !slices.Equal(panes.Last(a), panes.Last(b)) {
					t.Errorf("Last of %v is %v, of %v %v", a, panes.Last(a), b, panes.Last(b))
				}
				for _, c := range lists {
					if alike && panes.Alike(b, c) && !panes.Alike(a, c) {
						t.Errorf("%v, %v, %v are alike two by two", a, b, c)
					}
				}
			}
		}
	}
}
