package schema_test

import (
	"encoding/binary"
	"math"
	"math/big"
	"reflect"
	"slices"
	"strings"
	"testing"

	"keepsake/api"
	"keepsake/schema"
)

// The chapter's words, in the plainest way: numbers without bound, forms by the library's or by their words, and windows held against each other one by one.

const (
	least    = math.MinInt64
	greatest = math.MaxInt64

	leastStart  = -1<<62 - 1<<40
	greatestEnd = 1<<62 + 1<<40
	mostCount   = 1 << 53
)

// tumbling is the chapter's job T.
func tumbling() api.Config {
	return api.Config{Groups: 1, Sources: 1, Kind: api.Tumbling, Size: 10}
}

func sliding() api.Config {
	return api.Config{Groups: 7, Sources: 3, Kind: api.Sliding, Size: 10, Slide: 5, Offset: 2, Late: 4, Early: 3, Discard: true}
}

// session is the chapter's job N.
func session() api.Config { return api.Config{Groups: 1, Sources: 1, Kind: api.Session, Gap: 5} }

func jobs() []api.Config { return []api.Config{tumbling(), sliding(), session()} }

// noJobs are jobs that may not be.
func noJobs() []api.Config {
	l := []api.Config{{}}
	for i, change := range []func(c *api.Config){
		func(c *api.Config) { c.Groups = 0 },
		func(c *api.Config) { c.Sources = 65 },
		func(c *api.Config) { c.Kind = 4 },
		func(c *api.Config) { c.Kind = -1 },
		func(c *api.Config) { c.Size = -1 },
		func(c *api.Config) { c.Slide = -7 },
		func(c *api.Config) { c.Offset = 10 },
		func(c *api.Config) { c.Gap = -1 },
		func(c *api.Config) { c.Late = 1<<40 + 1 },
		func(c *api.Config) { c.Early = -1 },
	} {
		c := jobs()[i%3]
		change(&c)
		l = append(l, c)
	}
	return l
}

func span(start, end int64) api.Win {
	return api.Win{Span: api.Span{Start: start, End: end}, Hold: start, Tally: api.Tally{Count: 1, Sum: 7, Min: 7, Max: 7}, Since: 1}
}

// spans are windows of which each pair of numbers is one.
func spans(l ...int64) []api.Win {
	var out []api.Win
	for i := 0; i+1 < len(l); i += 2 {
		out = append(out, span(l[i], l[i+1]))
	}
	return out
}

func keyed(key string, dropped int64, l ...api.Win) api.KeyState {
	return api.KeyState{Key: key, Dropped: dropped, Windows: l}
}

// inOrder is DOC.md's word of it.
func inOrder(c api.Config, k api.KeyState) bool {
	if len(k.Key) > 256 || k.Dropped < 0 || k.Dropped > mostCount {
		return false
	}
	for i, w := range k.Windows {
		for _, n := range []int64{w.Count, w.Since, w.Panes} {
			if n < 0 || n > mostCount {
				return false
			}
		}
		if w.Start >= w.End || w.Start < leastStart || w.End > greatestEnd {
			return false
		}
		for _, v := range k.Windows[:i] {
			if v.Start > w.Start || v.Start == w.Start && v.End >= w.End {
				return false
			}
			if c.Kind == api.Session && v.Start < w.End && w.Start < v.End {
				return false
			}
		}
	}
	return true
}

// number is a number form, of a number from 0 to 2^64 - 1; of others, which a state has that is out of order, it is that of a number far above.
func number(x *big.Int) []byte {
	around := new(big.Int).Lsh(big.NewInt(1), 64)
	return binary.AppendUvarint(nil, around.Mod(x, around).Uint64())
}

// between is x less y less z.
func between(x, y, z int64) *big.Int {
	d := new(big.Int).Sub(big.NewInt(x), big.NewInt(y))
	return d.Sub(d, big.NewInt(z))
}

// bytesOf are a state's bytes.
func bytesOf(k api.KeyState) []byte {
	b := append(number(big.NewInt(int64(len(k.Key)))), k.Key...)
	b = append(b, number(big.NewInt(k.Dropped))...)
	b = append(b, number(big.NewInt(int64(len(k.Windows))))...)
	for i, w := range k.Windows {
		if i == 0 {
			b = binary.AppendVarint(b, w.Start)
		} else {
			b = append(b, number(between(w.Start, k.Windows[i-1].Start, 0))...)
		}
		b = append(b, number(between(w.End, w.Start, 1))...)
		b = binary.AppendVarint(b, w.Hold)
		b = append(b, number(big.NewInt(w.Count))...)
		b = binary.AppendVarint(b, w.Sum)
		b = binary.AppendVarint(b, w.Min)
		b = binary.AppendVarint(b, w.Max)
		b = append(b, number(big.NewInt(w.Since))...)
		b = append(b, number(big.NewInt(w.Panes))...)
	}
	return b
}

// scan is the course of the model: numbers without bound; dead, once something could not be read.
type scan struct {
	rest []byte
	dead bool
}

// number reads a number form.
func (s *scan) number() *big.Int {
	x := new(big.Int)
	for i, c := range s.rest {
		x.Or(x, new(big.Int).Lsh(big.NewInt(int64(c&127)), uint(7*i)))
		if c >= 128 {
			continue
		}
		if x.BitLen() > 64 || i > 0 && c == 0 {
			break
		}
		s.rest = s.rest[i+1:]
		return x
	}
	s.dead = true
	return new(big.Int)
}

// whole is a number form's number, if it is an int64.
func (s *scan) whole() int64 { return s.within(s.number()) }

// within is a number as an int64, if it is one.
func (s *scan) within(x *big.Int) int64 {
	if !x.IsInt64() {
		s.dead = true
		return 0
	}
	return x.Int64()
}

// signed is a signed form's number.
func (s *scan) signed() int64 {
	x := s.number()
	if odd := x.Bit(0); odd == 1 {
		x.Add(x, big.NewInt(1)).Neg(x)
	}
	return x.Quo(x, big.NewInt(2)).Int64()
}

// text reads a text form.
func (s *scan) text() string {
	n := s.number()
	if n.Cmp(big.NewInt(int64(len(s.rest)))) > 0 {
		s.dead = true
		return ""
	}
	text := string(s.rest[:n.Int64()])
	s.rest = s.rest[n.Int64():]
	return text
}

// further is how far x is behind y.
func further(x *big.Int, y, z int64) *big.Int {
	sum := new(big.Int).Add(x, big.NewInt(y))
	return sum.Add(sum, big.NewInt(z))
}

// readOf is the state with whose bytes b begins, and how many they are.
func readOf(c api.Config, b []byte) (api.KeyState, int, bool) {
	s := &scan{rest: b}
	k := api.KeyState{Key: s.text(), Dropped: s.whole()}
	n := s.number()
	for i := new(big.Int); i.Cmp(n) < 0 && !s.dead; i.Add(i, big.NewInt(1)) {
		var w api.Win
		if i.Sign() == 0 {
			w.Start = s.signed()
		} else {
			w.Start = s.within(further(s.number(), k.Windows[len(k.Windows)-1].Start, 0))
		}
		w.End = s.within(further(s.number(), w.Start, 1))
		w.Hold = s.signed()
		w.Count = s.whole()
		w.Sum, w.Min, w.Max = s.signed(), s.signed(), s.signed()
		w.Since, w.Panes = s.whole(), s.whole()
		k.Windows = append(k.Windows, w)
	}
	if s.dead || !inOrder(c, k) {
		return api.KeyState{}, 0, false
	}
	return k, len(b) - len(s.rest), true
}

// skipOf is the key of the forms with which b begins, and how many bytes they are.
func skipOf(b []byte) (string, int, bool) {
	s := &scan{rest: b}
	key := s.text()
	s.number()
	n := s.number()
	n.Mul(n, big.NewInt(9))
	for i := new(big.Int); i.Cmp(n) < 0 && !s.dead; i.Add(i, big.NewInt(1)) {
		s.number()
	}
	if s.dead {
		return "", 0, false
	}
	return key, len(b) - len(s.rest), true
}

// readAllOf are the states whose bytes b is.
func readAllOf(c api.Config, b []byte) ([]api.KeyState, bool) {
	var l []api.KeyState
	for len(b) > 0 {
		k, n, is := readOf(c, b)
		if !is || len(l) > 0 && strings.Compare(l[len(l)-1].Key, k.Key) >= 0 {
			return nil, false
		}
		l = append(l, k)
		b = b[n:]
	}
	return l, true
}

// risingOf tells whether the keys of states rise, each in order.
func risingOf(c api.Config, l []api.KeyState) bool {
	for i, k := range l {
		if !inOrder(c, k) || i > 0 && strings.Compare(l[i-1].Key, k.Key) >= 0 {
			return false
		}
	}
	return true
}

// same tells whether two states are: no windows are no windows, however they are handed in.
func same(a, b api.KeyState) bool {
	return a.Key == b.Key && a.Dropped == b.Dropped && slices.Equal(a.Windows, b.Windows)
}

// put holds Put and Size, and PutAll of that state alone, against the model, and what reads against what was put.
func put(t *testing.T, c api.Config, k api.KeyState) {
	t.Helper()
	if !inOrder(c, k) {
		putWrong(t, c, k, api.ErrState)
		return
	}
	want := bytesOf(k)
	if b, e := schema.Put(c, k); e != api.OK || string(b) != string(want) {
		t.Errorf("Put(%+v) is %v, %d, want %v", k, b, e, want)
	}
	if n, e := schema.Size(c, k); e != api.OK || n != len(want) {
		t.Errorf("Size(%+v) is %d, %d, want %d", k, n, e, len(want))
	}
	if b, e := schema.PutAll(c, k); e != api.OK || string(b) != string(want) {
		t.Errorf("PutAll(%+v) is %v, %d, want %v", k, b, e, want)
	}
	for _, behind := range [][]byte{nil, {0}, {255}, want, make([]byte, 400)} {
		b := slices.Concat(want, behind)
		if got, n, e := schema.Read(c, b); e != api.OK || n != len(want) || !same(got, k) {
			t.Errorf("Read(%v) is %+v, %d, %d, want %+v, %d", b, got, n, e, k, len(want))
		}
		if key, n, e := schema.Skip(b); e != api.OK || n != len(want) || key != k.Key {
			t.Errorf("Skip(%v) is %q, %d, %d, want %q, %d", b, key, n, e, k.Key, len(want))
		}
	}
}

// putWrong holds Put, Size and PutAll against an error.
func putWrong(t *testing.T, c api.Config, k api.KeyState, want api.Errno) {
	t.Helper()
	if b, e := schema.Put(c, k); b != nil || e != want {
		t.Errorf("Put(%+v, %+v) is %v, %d, want error %d", c, k, b, e, want)
	}
	if n, e := schema.Size(c, k); n != 0 || e != want {
		t.Errorf("Size(%+v, %+v) is %d, %d, want error %d", c, k, n, e, want)
	}
	if b, e := schema.PutAll(c, k); b != nil || e != want {
		t.Errorf("PutAll(%+v, %+v) is %v, %d, want error %d", c, k, b, e, want)
	}
}

// read holds Read, Skip and ReadAll against the model, and what was read against what is written of it.
func read(t *testing.T, c api.Config, b []byte) {
	t.Helper()
	want, size, is := readOf(c, b)
	k, n, e := schema.Read(c, b)
	if (e == api.OK) != is || !is && e != api.ErrSchema || n != size || !reflect.DeepEqual(k, want) {
		t.Errorf("Read(%v) is %+v, %d, %d, want %+v, %d, %v", b, k, n, e, want, size, is)
	}
	if is {
		if again, e := schema.Put(c, k); e != api.OK || string(again) != string(b[:n]) {
			t.Errorf("%v is read, and %v, %d written", b[:n], again, e)
		}
	}
	skip(t, b)
	readAll(t, c, b)
}

// skip holds Skip against the model.
func skip(t *testing.T, b []byte) {
	t.Helper()
	want, size, is := skipOf(b)
	if key, n, e := schema.Skip(b); (e == api.OK) != is || !is && e != api.ErrSchema || n != size || key != want {
		t.Errorf("Skip(%v) is %q, %d, %d, want %q, %d, %v", b, key, n, e, want, size, is)
	}
}

// readAll holds ReadAll against the model, and what was read against what is written of it.
func readAll(t *testing.T, c api.Config, b []byte) {
	t.Helper()
	want, is := readAllOf(c, b)
	l, e := schema.ReadAll(c, b)
	if (e == api.OK) != is || !is && e != api.ErrSchema || !reflect.DeepEqual(l, want) {
		t.Errorf("ReadAll(%v) is %+v, %d, want %+v, %v", b, l, e, want, is)
	}
	if is {
		if again, e := schema.PutAll(c, l...); e != api.OK || string(again) != string(b) {
			t.Errorf("%v is read, and %v, %d written", b, again, e)
		}
	}
}

// putAll holds PutAll against the model, and ReadAll against what was put.
func putAll(t *testing.T, c api.Config, l ...api.KeyState) {
	t.Helper()
	b, e := schema.PutAll(c, l...)
	if !risingOf(c, l) {
		if b != nil || e != api.ErrState {
			t.Errorf("PutAll(%+v) is %v, %d, want ErrState", l, b, e)
		}
		return
	}
	var want []byte
	for _, k := range l {
		want = append(want, bytesOf(k)...)
	}
	if e != api.OK || string(b) != string(want) {
		t.Errorf("PutAll(%+v) is %v, %d, want %v", l, b, e, want)
	}
	if again, e := schema.ReadAll(c, b); e != api.OK || !slices.EqualFunc(again, l, same) {
		t.Errorf("ReadAll(%v) is %+v, %d, want %+v", b, again, e, l)
	}
}
