package store_test

import (
	"cmp"
	"math"
	"math/rand"
	"slices"
	"strings"
	"testing"

	"keepsake/api"
	"keepsake/store"
)

func TestExamples(t *testing.T) {
	m := store.Of[int, string]()
	for _, r := range []struct {
		key        int
		value, was string
		had        bool
	}{{5, "a", "", false}, {1, "b", "", false}, {9, "c", "", false}, {5, "d", "a", true}} {
		if was, had, e := m.Put(r.key, r.value); was != r.was || had != r.had || e != api.OK {
			t.Errorf("Put(%d, %q) is %q %t %v", r.key, r.value, was, had, e)
		}
	}
	if v, ok := m.Get(5); v != "d" || !ok {
		t.Errorf("Get(5) is %q %t", v, ok)
	}
	if v, ok := m.Get(6); v != "" || ok {
		t.Errorf("Get(6) is %q %t", v, ok)
	}
	if n := m.Len(); n != 3 {
		t.Errorf("Len is %d", n)
	}
	for _, r := range []struct {
		key, place int
		there      bool
	}{{5, 1, true}, {6, 2, false}, {0, 0, false}, {10, 3, false}} {
		if n, ok := m.Place(r.key); n != r.place || ok != r.there {
			t.Errorf("Place(%d) is %d %t", r.key, n, ok)
		}
	}
	for _, r := range []struct {
		place, key int
		value      string
		there      bool
	}{{0, 1, "b", true}, {2, 9, "c", true}, {3, 0, "", false}, {-1, 0, "", false}} {
		if k, v, ok := m.At(r.place); k != r.key || v != r.value || ok != r.there {
			t.Errorf("At(%d) is %d %q %t", r.place, k, v, ok)
		}
	}
	for name, l := range map[string][2][]int{
		"All":     {keysOf(m.All()), {1, 5, 9}},
		"From(2)": {keysOf(m.From(2)), {5, 9}},
		"From(5)": {keysOf(m.From(5)), {5, 9}},
		"Back(5)": {keysOf(m.Back(5)), {5, 1}},
		"Back(0)": {keysOf(m.Back(0)), nil},
	} {
		if !slices.Equal(l[0], l[1]) {
			t.Errorf("%s tells %v, want %v", name, l[0], l[1])
		}
	}
	n := m.Copy()
	if v, ok := n.Take(5); v != "d" || !ok || n.Len() != 2 || m.Len() != 3 {
		t.Errorf("Take(5) of the copy is %q %t; it has %d keys then, the other one %d", v, ok, n.Len(), m.Len())
	}
	if v, ok := m.Get(5); v != "d" || !ok {
		t.Errorf("Get(5) is %q %t, behind a Take of the copy", v, ok)
	}
}

func TestNew(t *testing.T) {
	if m, e := store.New[int, string](nil); m != nil || e != api.ErrNil {
		t.Errorf("New(nil) is %v, %v", m, e)
	}
	if m, e := store.New[[]int, func()](nil); m != nil || e != api.ErrNil {
		t.Errorf("New(nil) is %v, %v", m, e)
	}
	for _, compare := range []func(a, b int) int{cmp.Compare[int], falling, far} {
		w := newTwin[int, string](t, compare)
		same(t, w.m, w.want, 0, 1)
		for _, k := range []int{3, 1, 2, 3} {
			w.put(t, k, "x")
		}
		same(t, w.m, w.want, numbers(0, 6)...)
	}
}

func TestNewMapsAreApart(t *testing.T) {
	a, b := store.Of[int, int](), store.Of[int, int]()
	a.Put(1, 2)
	if v, ok := b.Get(1); v != 0 || ok || b.Len() != 0 {
		t.Errorf("what is put into one map is in another one: %d %t", v, ok)
	}
}

func TestOfReals(t *testing.T) {
	m := store.Of[float64, string]()
	nan, inf, nought := math.NaN(), math.Inf(1), math.Copysign(0, -1)
	for _, k := range []float64{inf, 1, nan, -1, nought, -inf, math.MaxFloat64, math.SmallestNonzeroFloat64} {
		if _, had, e := m.Put(k, "x"); had || e != api.OK {
			t.Errorf("Put(%v): %t %v", k, had, e)
		}
	}
	for _, k := range []float64{nan, 0, -nan} {
		if was, had, _ := m.Put(k, "y"); (was != "x" && was != "y") || !had {
			t.Errorf("Put(%v) again is %q %t", k, was, had)
		}
	}
	l := keysOf(m.All())
	want := []float64{nan, -inf, -1, nought, math.SmallestNonzeroFloat64, 1, math.MaxFloat64, inf}
	if slices.CompareFunc(l, want, cmp.Compare) != 0 {
		t.Errorf("All tells %v", l)
	}
	if !math.Signbit(l[3]) {
		t.Error("the nought is another one than the one that was put first")
	}
	if n, ok := m.Place(nan); n != 0 || !ok {
		t.Errorf("Place(NaN) is %d %t", n, ok)
	}
	if v, ok := m.Take(nan); v != "y" || !ok || m.Len() != 7 {
		t.Errorf("Take(NaN) is %q %t", v, ok)
	}
}

func TestOfTexts(t *testing.T) {
	m := store.Of[string, int]()
	want := []string{"", "\x00", "\x00\x00", "a", "a\x00", "aa", "ab", "b", "ä", "日本", "\xff", "\xff\xff", strings.Repeat("\xff", 300)}
	for i, k := range slices.Backward(want) {
		m.Put(k, i)
	}
	if l := keysOf(m.All()); !slices.Equal(l, want) {
		t.Errorf("All tells %q", l)
	}
	for i, k := range want {
		if v, ok := m.Get(k); v != i || !ok {
			t.Errorf("Get(%q) is %d %t", k, v, ok)
		}
	}
}

func TestOfNumbersAtTheirBounds(t *testing.T) {
	w := twin[int, int]{store.Of[int, int](), &list[int, int]{compare: cmp.Compare[int]}}
	bounds := []int{math.MaxInt, math.MinInt, 0, -1, 1, math.MaxInt - 1, math.MinInt + 1}
	for i, k := range bounds {
		w.put(t, k, i)
		same(t, w.m, w.want, bounds...)
	}
	small := store.Of[int8, int]()
	for k := -128; k < 128; k++ {
		small.Put(int8(-k), k)
	}
	if l := keysOf(small.All()); len(l) != 256 || !slices.IsSorted(l) || l[0] != -128 {
		t.Errorf("All tells %v", l)
	}
}

// named is a key of which the order sees the number alone.
type named struct {
	number int
	name   string
}

func byNumber(a, b named) int { return cmp.Compare(a.number, b.number) }

func TestKeyStaysAsItWasPutFirst(t *testing.T) {
	w := newTwin[named, int](t, byNumber)
	for i := range 20 {
		w.put(t, named{i % 7, "first"}, i)
	}
	for i := range 20 {
		w.put(t, named{i % 7, "second"}, -i)
	}
	for k := range w.m.All() {
		if k.name != "first" {
			t.Fatalf("the key %d is %q", k.number, k.name)
		}
	}
	same(t, w.m, w.want, named{3, "third"})
	other := w.copied()
	w.take(t, named{3, "any"})
	w.put(t, named{3, "again"}, 5)
	same(t, w.m, w.want, named{3, "third"})
	same(t, other.m, other.want, named{3, "third"})
	if k, v, _ := w.m.At(3); k.name != "again" || v != 5 {
		t.Errorf("At(3) is %v %d: a key that was taken away is put anew", k, v)
	}
	if k, _, _ := other.m.At(3); k.name != "first" {
		t.Errorf("At(3) of the copy is %v", k)
	}
}

func TestKeptAsHandedIn(t *testing.T) {
	compare := func(a, b *[]int) int { return cmp.Compare((*a)[0], (*b)[0]) }
	m, _ := store.New[*[]int, []int](compare)
	key, value := &[]int{1, 2}, make([]int, 2, 8)
	m.Put(key, value)
	value[0] = 7
	n := m.Copy()
	for _, one := range []*store.Map[*[]int, []int]{m, n} {
		got, _ := one.Get(&[]int{1})
		if len(got) != 2 || &got[0] != &value[0] || cap(got) != 8 {
			t.Errorf("Get is %v, with room for %d", got, cap(got))
		}
		k, v, _ := one.At(0)
		if k != key || &v[0] != &value[0] {
			t.Errorf("At is %v %v", k, v)
		}
		for k, v := range one.All() {
			if k != key || &v[0] != &value[0] {
				t.Errorf("All tells %v %v", k, v)
			}
		}
	}
	if was, had := m.Take(&[]int{1, 9}); !had || &was[0] != &value[0] || cap(was) != 8 {
		t.Errorf("Take is %v %t", was, had)
	}
}

func TestAnyTypes(t *testing.T) {
	m, _ := store.New[any, func() int](func(a, b any) int { return cmp.Compare(a.(int), b.(int)) })
	m.Put(3, func() int { return 30 })
	m.Put(1, nil)
	if f, ok := m.Get(3); !ok || f() != 30 {
		t.Error("Get(3) is another function")
	}
	if f, ok := m.Get(1); !ok || f != nil {
		t.Error("Get(1): a value that is nil is there")
	}
	if was, had := m.Take(1); was != nil || !had {
		t.Error("Take(1): a value that is nil is there")
	}
	none, _ := store.New[struct{}, struct{}](func(a, b struct{}) int { return 0 })
	none.Put(struct{}{}, struct{}{})
	if _, had, _ := none.Put(struct{}{}, struct{}{}); !had || none.Len() != 1 {
		t.Errorf("one key put twice: %t, Len is %d", had, none.Len())
	}
}

func TestZeroValueIsThere(t *testing.T) {
	m := store.Of[int, int]()
	m.Put(0, 0)
	if v, ok := m.Get(0); v != 0 || !ok {
		t.Errorf("Get(0) is %d %t", v, ok)
	}
	if k, v, ok := m.At(0); k != 0 || v != 0 || !ok {
		t.Errorf("At(0) is %d %d %t", k, v, ok)
	}
	if was, had, _ := m.Put(0, 1); was != 0 || !had {
		t.Errorf("Put(0, 1) is %d %t", was, had)
	}
	m.Put(0, 0)
	if v, ok := m.Take(0); v != 0 || !ok {
		t.Errorf("Take(0) is %d %t", v, ok)
	}
}

func TestTakenAway(t *testing.T) {
	w := newTwin[int, string](t, cmp.Compare[int])
	for range 3 {
		for _, k := range []int{4, 2, 6, 1, 3, 5, 7} {
			w.put(t, k, "x")
		}
		for _, k := range []int{4, 4, 8, 0, 1, 7, 1} {
			w.take(t, k)
			same(t, w.m, w.want, numbers(0, 9)...)
		}
		for _, k := range numbers(0, 9) {
			w.take(t, k)
		}
		// A map that has lost all its keys is not a zero one.
		same(t, w.m, w.want, numbers(0, 9)...)
		if w.m.Copy() == nil {
			t.Fatal("Copy of a map without keys is nil")
		}
	}
}

func TestAtFarPlaces(t *testing.T) {
	m := store.Of[int, string]()
	for i := range 100 {
		m.Put(i, "x")
	}
	for _, place := range []int{math.MinInt, math.MinInt + 1, math.MinInt32, -101, -100, -1, 100, 101, math.MaxInt32, math.MaxInt - 1, math.MaxInt} {
		if k, v, ok := m.At(place); k != 0 || v != "" || ok {
			t.Errorf("At(%d) is %d %q %t", place, k, v, ok)
		}
	}
}

func TestAnyCalls(t *testing.T) {
	for seed, compare := range []func(a, b int) int{cmp.Compare[int], falling, far} {
		for _, bound := range []int{1, 2, 3, 5, 8, 20, 60} {
			r := rand.New(rand.NewSource(int64(100*seed + bound)))
			w := newTwin[int, int](t, compare)
			for step := range 300 {
				key := r.Intn(bound)
				if r.Intn(5) < 3 {
					w.put(t, key, step)
				} else {
					w.take(t, key)
				}
				same(t, w.m, w.want, r.Intn(bound+2)-1)
			}
			same(t, w.m, w.want, numbers(-1, bound+1)...)
		}
	}
}

func TestMissesChangeNothing(t *testing.T) {
	w := newTwin[int, int](t, cmp.Compare[int])
	for i := range 50 {
		w.put(t, 2*i, i)
	}
	for i := -1; i < 101; i += 2 {
		w.take(t, i)
		same(t, w.m, w.want, i)
	}
}

// Each call goes down one way in the tree, which is never far longer than it must be, however the keys came.
func TestFewComparisons(t *testing.T) {
	const many = 1 << 13
	ways := map[string]func(i int) int{
		"rising":  func(i int) int { return i },
		"falling": func(i int) int { return many - i },
		"mixed":   func(i int) int { return i * 7919 % 8209 },
		"inwards": func(i int) int { return (1 - i%2*2) * (many - i) },
	}
	for name, key := range ways {
		calls, most := 0, 0
		m, _ := store.New[int, int](func(a, b int) int { calls++; return cmp.Compare(a, b) })
		count := func(call func()) {
			calls = 0
			call()
			most = max(most, calls)
		}
		for i := range many {
			count(func() { m.Put(key(i), i) })
		}
		for i := range many {
			if i%8 != 0 {
				count(func() { m.Take(key(i)) })
			}
		}
		for i := range many {
			count(func() { m.Put(key(i), i) })
			count(func() { m.Get(key(i)) })
			count(func() { m.Place(key(i)) })
			count(func() {
				for range m.From(key(i)) {
					break
				}
			})
			count(func() {
				for range m.Back(key(i)) {
					break
				}
			})
		}
		for i := range many - 1 {
			count(func() { m.Take(key(i)) })
		}
		if m.Len() != 1 || most > 32 {
			t.Errorf("%s: %d keys are left; some call compares %d times", name, m.Len(), most)
		}
	}
}
