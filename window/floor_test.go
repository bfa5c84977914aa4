package window_test

import (
	"math/rand"
	"testing"

	"keepsake/api"
	"keepsake/window"
)

func TestFloorExamples(t *testing.T) {
	for _, r := range []struct {
		t, offset, step, want int64
		e                     api.Errno
	}{
		{7, 3, 10, 3, api.OK}, {2, 3, 10, -7, api.OK}, {-7, 3, 10, -7, api.OK}, {-8, 3, 10, -17, api.OK},
		{0, 0, 0, 0, api.ErrArg}, {least, 1, 1 << 40, 0, api.ErrArg},

		{0, 0, 1, 0, api.OK}, {9, 0, 10, 0, api.OK}, {10, 0, 10, 10, api.OK}, {-1, 0, 10, -10, api.OK}, {-10, 0, 10, -10, api.OK}, {-11, 0, 10, -20, api.OK},
		{7, -3, 10, 7, api.OK}, {6, -3, 10, -3, api.OK}, {-3, -3, 10, -3, api.OK}, {-4, -3, 10, -13, api.OK}, {-13, -3, 10, -13, api.OK},
		{7, 103, 10, 3, api.OK}, {7, -97, 10, 3, api.OK}, {7, -103, 10, 7, api.OK},
		{5, 5, greatest, 5, api.OK}, {4, 5, greatest, 5 - greatest, api.OK}, {-1, 0, greatest, -greatest, api.OK}, {greatest, 0, greatest, greatest, api.OK},

		// The floor is the least number, or just below it.
		{least, least, 10, least, api.OK}, {least, 0, 2, least, api.OK}, {least, greatest, 1, least, api.OK}, {least, 0, 1 << 62, least, api.OK},
		{least, 1, 2, 0, api.ErrArg}, {least + 1, 0, 2, least, api.OK}, {least, 0, 3, 0, api.ErrArg}, {least + 1, 0, 3, 0, api.ErrArg}, {least + 2, 0, 3, least + 2, api.OK},
		{least, greatest, greatest, 0, api.ErrArg}, {least + 1, greatest, greatest, least + 1, api.OK},

		// t and the offset lie further apart than the numbers go.
		{greatest, least, 10, greatest - 5, api.OK}, {greatest, least, greatest, greatest - 1, api.OK}, {least + 5, greatest, 10, least + 5, api.OK}, {least + 5, greatest, 6, least + 3, api.OK},
	} {
		if got, e := window.Floor(r.t, r.offset, r.step); got != r.want || e != r.e {
			t.Errorf("Floor(%d, %d, %d) is %d, %v, want %d, %v", r.t, r.offset, r.step, got, e, r.want, r.e)
		}
	}
}

// floors holds Floor against the floor without bound.
func floors(t *testing.T, n, offset, step int64) {
	t.Helper()
	got, e := window.Floor(n, offset, step)
	if step < 1 {
		if got != 0 || e != api.ErrArg {
			t.Fatalf("Floor(%d, %d, %d) is %d, %v", n, offset, step, got, e)
		}
		return
	}
	want := floorOf(n, offset, step)
	if !within(want, least, greatest) {
		if got != 0 || e != api.ErrArg {
			t.Fatalf("Floor(%d, %d, %d) is %d, %v, the floor is %v", n, offset, step, got, e, want)
		}
		return
	}
	if want.Cmp(whole(got)) != 0 || e != api.OK {
		t.Fatalf("Floor(%d, %d, %d) is %d, %v, want %v", n, offset, step, got, e, want)
	}
}

func TestFloorOfSmallNumbers(t *testing.T) {
	for step := int64(-2); step <= 9; step++ {
		for n := int64(-25); n <= 25; n++ {
			for offset := int64(-25); offset <= 25; offset++ {
				floors(t, n, offset, step)
			}
		}
	}
}

func TestFloorAtEdges(t *testing.T) {
	steps := append(edges(), 3, 7, 10, 1<<20, 1<<62-1, 1<<62+1)
	for _, n := range edges() {
		for _, offset := range edges() {
			for _, step := range steps {
				floors(t, n, offset, step)
			}
		}
	}
}

func TestFloorOfAnyNumbers(t *testing.T) {
	r := rand.New(rand.NewSource(1))
	for range 100000 {
		floors(t, anyNumber(r), anyNumber(r), anyNumber(r))
	}
}

func FuzzFloor(f *testing.F) {
	f.Add(int64(-8), int64(3), int64(10))
	f.Add(int64(least), int64(1), int64(1<<40))
	f.Add(int64(greatest), int64(least), int64(greatest))
	f.Fuzz(func(t *testing.T, n, offset, step int64) { floors(t, n, offset, step) })
}
