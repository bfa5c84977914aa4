package frame_test

import (
	"bytes"
	"math/rand"
	"slices"
	"testing"

	"keepsake/api"
	"keepsake/frame"
)

// found is a block and the place of its frame.
type found struct {
	place int
	block api.Block
}

// walk goes over the frames with which b begins, and tells the place where it ends, and why.
func walk(b []byte) (l []found, place int, e api.Errno) {
	for place < len(b) {
		x, n, wrong := readOf(b[place:])
		if wrong != api.OK {
			return l, place, wrong
		}
		l = append(l, found{place, x})
		place += n
	}
	return l, place, api.OK
}

// justOf is what Just must answer, as the chapter words it.
func justOf(b []byte, tags []byte) ([][]byte, int, api.Errno) {
	l, place, e := walk(b)
	var bodies [][]byte
	for i, x := range l {
		if i >= len(tags) || tags[i] != x.block.Tag {
			return nil, x.place, api.ErrTag
		}
		bodies = append(bodies, x.block.Body)
	}
	if e != api.OK {
		return nil, place, e
	}
	if len(tags) > len(l) {
		return nil, len(b), api.ErrTag
	}
	return bodies, len(b), api.OK
}

// gather goes over all that each tells.
func gather(each func(func(int, api.Block) bool)) []found {
	var l []found
	for place, x := range each {
		l = append(l, found{place, x})
	}
	return l
}

func sameFound(a, b []found) bool {
	return slices.EqualFunc(a, b, func(x, y found) bool {
		return x.place == y.place && x.block.Tag == y.block.Tag && bytes.Equal(x.block.Body, y.block.Body)
	})
}

// checkRow holds All, Each and Just of b against the chapter's words.
func checkRow(t *testing.T, b []byte, tags ...byte) {
	t.Helper()
	want, place, e := walk(b)
	var blocks []api.Block
	for _, x := range want {
		blocks = append(blocks, x.block)
	}
	if e != api.OK {
		blocks = nil
	}
	if got, n, f := frame.All(b); !sameBlocks(got, blocks) || n != place || f != e {
		t.Errorf("All(%v): %v, %d, %v, want %v, %d, %v", b, got, n, f, blocks, place, e)
	}
	if got := gather(frame.Each(b)); !sameFound(got, want) {
		t.Errorf("Each(%v): %v, want %v", b, got, want)
	}
	bodies, place, e := justOf(b, tags)
	if got, n, f := frame.Just(b, tags...); !slices.EqualFunc(got, bodies, bytes.Equal) || n != place || f != e {
		t.Errorf("Just(%v, %v): %v, %d, %v, want %v, %d, %v", b, tags, got, n, f, bodies, place, e)
	}
}

// twoFrames are those of the chapter's examples.
func twoFrames() []byte { return rowOf(api.Block{Tag: 1, Body: []byte("a")}, api.Block{Tag: 2}) }

func TestAllExamples(t *testing.T) {
	b := twoFrames()
	both := []api.Block{{Tag: 1, Body: []byte("a")}, {Tag: 2}}
	spoilt := slices.Clone(b)
	spoilt[2]++
	for _, x := range []struct {
		name string
		b    []byte
		want []api.Block
		n    int
		e    api.Errno
	}{
		{"both", b, both, 13, api.OK}, {"both without the last byte", b[:12], nil, 7, api.ErrShort}, {"none", nil, nil, 0, api.OK}, {"an empty one", []byte{}, nil, 0, api.OK},
		{"the first", b[:7], both[:1], 7, api.OK}, {"the second", b[7:], both[1:], 6, api.OK}, {"a tag behind both", append(slices.Clone(b), 9), nil, 13, api.ErrShort},
		{"a length behind both that is none", append(slices.Clone(b), 9, 128, 0), nil, 13, api.ErrLength}, {"a spoilt first one", spoilt, nil, 0, api.ErrSum},
		{"a spoilt second one", slices.Concat(b[:7], spoilt), nil, 7, api.ErrSum}, {"noughts", make([]byte, 12), nil, 0, api.ErrSum},
	} {
		if l, n, e := frame.All(x.b); !sameBlocks(l, x.want) || n != x.n || e != x.e {
			t.Errorf("All of %s: %v, %d, %v", x.name, l, n, e)
		}
		checkRow(t, x.b, 1, 2)
	}
}

func TestJustExamples(t *testing.T) {
	b := twoFrames()
	spoilt := slices.Clone(b)
	spoilt[12]++
	for _, x := range []struct {
		name string
		b    []byte
		tags []byte
		want [][]byte
		n    int
		e    api.Errno
	}{
		{"both", b, []byte{1, 2}, [][]byte{{97}, {}}, 13, api.OK}, {"more frames than tags", b, []byte{1}, nil, 7, api.ErrTag}, {"another tag", b, []byte{1, 3}, nil, 7, api.ErrTag},
		{"fewer", b, []byte{1, 2, 3}, nil, 13, api.ErrTag}, {"another first tag", b, []byte{2, 2}, nil, 0, api.ErrTag}, {"tags turned about", b, []byte{2, 1}, nil, 0, api.ErrTag},
		{"no tags", b, nil, nil, 0, api.ErrTag}, {"nothing", nil, nil, nil, 0, api.OK}, {"no frames", nil, []byte{1}, nil, 0, api.ErrTag}, {"an empty one", []byte{}, []byte{}, nil, 0, api.OK},
		{"a spoilt one", spoilt, []byte{1, 2}, nil, 7, api.ErrSum}, {"a spoilt one of another tag", spoilt, []byte{1, 3}, nil, 7, api.ErrSum},
		{"a spoilt one too many", spoilt, []byte{1}, nil, 7, api.ErrSum}, {"a spoilt one behind another tag", spoilt, []byte{3, 2}, nil, 0, api.ErrTag},
		{"a spoilt one behind one too many", spoilt, nil, nil, 0, api.ErrTag}, {"a spoilt one ahead of fewer", spoilt, []byte{1, 2, 3}, nil, 7, api.ErrSum},
		{"one cut off ahead of fewer", b[:12], []byte{1, 2, 3}, nil, 7, api.ErrShort}, {"one cut off", b[:12], []byte{1}, nil, 7, api.ErrShort},
		{"no length", []byte{1, 128, 0}, []byte{1}, nil, 0, api.ErrLength}, {"one tag for both", rowOf(api.Block{Tag: 1}, api.Block{Tag: 1}), []byte{1}, nil, 6, api.ErrTag},
	} {
		if l, n, e := frame.Just(x.b, x.tags...); !slices.EqualFunc(l, x.want, bytes.Equal) || n != x.n || e != x.e {
			t.Errorf("Just of %s: %v, %d, %v", x.name, l, n, e)
		}
		if l, _, e := frame.Just(x.b, x.tags...); e != api.OK && l != nil {
			t.Errorf("Just of %s: a list beside %v", x.name, e)
		}
		checkRow(t, x.b, x.tags...)
	}
}

// TestRowCutOff: a row that ends at each byte is refused at the frame that is cut, and taken where none is.
func TestRowCutOff(t *testing.T) {
	r := rand.New(rand.NewSource(5))
	for range 30 {
		blocks := someBlocks(r)
		b := rowOf(blocks...)
		var tags []byte
		for _, x := range blocks {
			tags = append(tags, x.Tag)
		}
		for cut := range len(b) + 1 {
			checkRow(t, b[:cut], tags...)
		}
	}
}

// spoil changes some bytes of b, takes some away, or lays some behind it.
func spoil(r *rand.Rand, b []byte) []byte {
	b = slices.Clone(b)
	switch r.Intn(4) {
	case 0:
		if len(b) > 0 {
			b[r.Intn(len(b))] ^= 1 << r.Intn(8)
		}
	case 1:
		b = append(b, someBytes(r, r.Intn(10))...)
	case 2:
		if len(b) > 0 {
			i := r.Intn(len(b))
			b = slices.Delete(b, i, i+1)
		}
	}
	return b
}

func TestRowsOfAnyBytes(t *testing.T) {
	r := rand.New(rand.NewSource(6))
	for range 5000 {
		blocks := someBlocks(r)
		var tags []byte
		for _, x := range blocks {
			tags = append(tags, x.Tag)
		}
		b := spoil(r, rowOf(blocks...))
		checkRow(t, b, tags...)
		checkRow(t, b, spoil(r, tags)...)
	}
}

func TestEachLeftEarly(t *testing.T) {
	blocks := []api.Block{{Tag: 1, Body: []byte("a")}, {Tag: 2}, {Tag: 3, Body: []byte("cc")}, {Tag: 4}}
	b := rowOf(blocks...)
	want, _, _ := walk(b)
	each := frame.Each(b)
	for most := 1; most <= 5; most++ {
		var l []found
		for place, x := range each {
			l = append(l, found{place, x})
			if len(l) == most {
				break
			}
		}
		if !sameFound(l, want[:min(most, 4)]) {
			t.Errorf("left behind %d: %v", most, l)
		}
	}
	calls := 0
	each(func(int, api.Block) bool { calls++; return false })
	if calls != 1 {
		t.Errorf("told %d times, though it was left at the first one", calls)
	}
	if got := gather(each); !sameFound(got, want) {
		t.Errorf("gone over again: %v", got)
	}
}

func TestEachWithinEach(t *testing.T) {
	b := twoFrames()
	want, _, _ := walk(b)
	each, times := frame.Each(b), 0
	for range each {
		for range each {
			times++
		}
		if got := gather(each); !sameFound(got, want) {
			t.Errorf("within itself: %v", got)
		}
	}
	if times != 4 {
		t.Errorf("two frames within two: %d", times)
	}
}

// TestEachTellsOfTheCall: neither what becomes of b, nor of what was told, is seen.
func TestEachTellsOfTheCall(t *testing.T) {
	kept := rowOf(api.Block{Tag: 1, Body: []byte("abc")}, api.Block{Tag: 2}, api.Block{Tag: 3, Body: []byte("d")})
	want, _, _ := walk(kept)
	b := slices.Clone(kept)
	each := frame.Each(b)
	clear(b)
	if got := gather(each); !sameFound(got, want) {
		t.Errorf("with b spoilt ahead: %v", got)
	}
	b = slices.Clone(kept)
	each = frame.Each(b)
	var l []found
	for place, x := range each {
		l = append(l, found{place, api.Block{Tag: x.Tag, Body: bytes.Clone(x.Body)}})
		clear(b)
		clear(x.Body[:cap(x.Body)])
	}
	if !sameFound(l, want) {
		t.Errorf("with b spoilt on the way: %v", l)
	}
	if got := gather(each); !sameFound(got, want) {
		t.Errorf("with what was told spoilt: %v", got)
	}
	b = kept[:len(kept)-1]
	each = frame.Each(b[:9:9])
	if got := gather(each); !sameFound(got, want[:1]) {
		t.Errorf("of a row cut off: %v", got)
	}
}

func TestEachOfNothing(t *testing.T) {
	for _, b := range [][]byte{nil, {}, {7}, {7, 128, 0}, make([]byte, 6)} {
		each := frame.Each(b)
		if each == nil {
			t.Fatalf("Each(%v) is not there", b)
		}
		if got := gather(each); got != nil {
			t.Errorf("Each(%v): %v", b, got)
		}
	}
}

// TestManyFrames: each frame is looked at by itself, so that many of them are soon read.
func TestManyFrames(t *testing.T) {
	const n = 1 << 17
	b := bytes.Repeat(withSum(7, 1, 5), n)
	if l, size, e := frame.All(b); len(l) != n || size != len(b) || e != api.OK {
		t.Errorf("All: %d, %d, %v", len(l), size, e)
	}
	if l := gather(frame.Each(b)); len(l) != n || l[n-1].place != len(b)-7 {
		t.Errorf("Each: %d", len(l))
	}
	if l, size, e := frame.Just(b, bytes.Repeat([]byte{7}, n)...); len(l) != n || size != len(b) || e != api.OK {
		t.Errorf("Just: %d, %d, %v", len(l), size, e)
	}
}
