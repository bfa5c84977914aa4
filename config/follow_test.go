package config_test

import (
	"bytes"
	"math/rand"
	"slices"
	"testing"

	"keepsake/api"
	"keepsake/config"
)

// back holds Read of Bytes and Parse of Text against a job that may be.
func back(t *testing.T, c api.Config, more []byte) {
	t.Helper()
	b, e := config.Bytes(c)
	if e != api.OK {
		t.Errorf("Bytes(%+v) are refused: %d", c, e)
	}
	reads(t, b, c, len(b))
	reads(t, slices.Concat(b, more), c, len(b))
	text, e := config.Text(c)
	if e != api.OK {
		t.Errorf("Text(%+v) is refused: %d", c, e)
	}
	parses(t, text, c)
}

func TestThereAndBack(t *testing.T) {
	for _, c := range kinds() {
		back(t, c, nil)
	}
	r := rand.New(rand.NewSource(9))
	for range 50000 {
		more := make([]byte, r.Intn(20))
		r.Read(more)
		if back(t, anyGood(r), more); t.Failed() {
			t.FailNow()
		}
	}
}

// written is a job that may be, with its bytes and its text.
type written struct {
	c    api.Config
	b    []byte
	text string
}

func writtenOf(c api.Config) written {
	b, _ := config.Bytes(c)
	text, _ := config.Text(c)
	return written{c, b, text}
}

// isApart tells whether the bytes and the texts of two jobs are alike if the jobs are, and only then.
func isApart(x, y written) bool {
	same := x.c == y.c
	return bytes.HasPrefix(x.b, y.b) == same && bytes.HasPrefix(y.b, x.b) == same && (x.text == y.text) == same
}

func TestUnlikeJobs(t *testing.T) {
	r := rand.New(rand.NewSource(10))
	l := kinds()
	for range 400 {
		l = append(l, anyGood(r))
	}
	// Beside each one such as differ in one field by one.
	for _, c := range slices.Clone(l) {
		f := api.Field(1 + r.Intn(9))
		for _, d := range []api.Config{with(c, f, number(c, f)+1), with(c, f, number(c, f)-1), with(c, f, number(c, f)*128)} {
			if mayBeOf(d) {
				l = append(l, d)
			}
		}
		c.Discard = !c.Discard
		l = append(l, c)
	}
	var all []written
	for _, c := range l {
		all = append(all, writtenOf(c))
	}
	for _, x := range all {
		for _, y := range all {
			if !isApart(x, y) {
				t.Fatalf("%+v and %+v", x, y)
			}
		}
	}
}

// What is handed in stays, the room behind it included; answers are nobody else's.
func TestSharesNothing(t *testing.T) {
	one, _ := config.Bytes(sliding())
	two, _ := config.Bytes(sliding())
	one = one[:cap(one)]
	for i := range one {
		one[i] = 255
	}
	if !slices.Equal(two, bytesOf(sliding())) {
		t.Errorf("writing over one answer makes another one %v", two)
	}
	if three, _ := config.Bytes(sliding()); !slices.Equal(three, two) {
		t.Errorf("writing over one answer makes the next one %v", three)
	}
	room := append(bytesOf(sliding()), 9, 9, 9)
	was := slices.Clone(room)
	for _, b := range [][]byte{room, room[:13], room[:5], room[:0]} {
		config.Read(b)
	}
	if !slices.Equal(room, was) {
		t.Errorf("Read leaves %v of its bytes", room)
	}
}

func FuzzRead(f *testing.F) {
	for _, c := range kinds() {
		f.Add(bytesOf(c))
		f.Add(append(bytesOf(c), 9))
		f.Add(bytesOf(c)[:9])
	}
	f.Add([]byte{4, 1, 1, 138, 0, 0, 3, 0, 5, 0, 0})
	f.Fuzz(func(t *testing.T, b []byte) {
		want, size, wantE := readOf(b)
		c, n, e := config.Read(b)
		if c != want || n != size || e != wantE {
			t.Fatalf("Read(%v) is %+v, %d, %d, want %+v, %d, %d", b, c, n, e, want, size, wantE)
		}
		if e != api.OK {
			return
		}
		if again, e := config.Bytes(c); !slices.Equal(again, b[:n]) || e != api.OK {
			t.Fatalf("%v is read, and written as %v, %d", b[:n], again, e)
		}
	})
}

func FuzzParse(f *testing.F) {
	for _, c := range kinds() {
		f.Add(textOf(c))
		f.Add(textOf(c) + " ")
	}
	f.Add("groups 4 sources 1 kind tumbling size 010 slide 0 offset 3 gap 0 late 5 early 0 discard no")
	f.Fuzz(func(t *testing.T, text string) {
		want, wantE := parseOf(text)
		c, e := config.Parse(text)
		if c != want || e != wantE {
			t.Fatalf("Parse(%q) is %+v, %d, want %+v, %d", text, c, e, want, wantE)
		}
		if e != api.OK {
			return
		}
		if again, e := config.Text(c); again != text || e != api.OK {
			t.Fatalf("%q is read, and written as %q, %d", text, again, e)
		}
	})
}

func FuzzWrong(f *testing.F) {
	for _, c := range kinds() {
		f.Add(c.Groups, c.Sources, int(c.Kind), c.Size, c.Slide, c.Offset, c.Gap, c.Late, c.Early)
	}
	f.Fuzz(func(t *testing.T, groups, sources, kind int, size, slide, offset, gap, late int64, early int) {
		c := api.Config{Groups: groups, Sources: sources, Kind: api.Kind(kind), Size: size, Slide: slide, Offset: offset, Gap: gap, Late: late, Early: early}
		wrong(t, c, wrongOf(c))
	})
}
