package config_test

import (
	"fmt"
	"math"
	"math/big"
	"math/rand"
	"regexp"
	"strings"

	"keepsake/api"
)

// What the chapter and DOC.md say, field by field, reckoned without bound and looked for plainly.

const (
	least    = math.MinInt64
	greatest = math.MaxInt64
)

// example is the chapter's job T.
func example() api.Config {
	return api.Config{Groups: 4, Sources: 1, Kind: api.Tumbling, Size: 10, Offset: 3, Late: 5}
}

// sliding and session are jobs of the other kinds that may be.
func sliding() api.Config {
	return api.Config{Groups: 7, Sources: 3, Kind: api.Sliding, Size: 640, Slide: 10, Offset: 9, Late: 300, Early: 128, Discard: true}
}

func session() api.Config {
	return api.Config{Groups: 300, Sources: 64, Kind: api.Session, Gap: 7, Late: 1, Early: 2}
}

func kinds() []api.Config { return []api.Config{example(), sliding(), session()} }

// number is a field of a job, by its number.
func number(c api.Config, f api.Field) int64 {
	switch f {
	case 1:
		return int64(c.Groups)
	case 2:
		return int64(c.Sources)
	case 3:
		return int64(c.Kind)
	case 4:
		return c.Size
	case 5:
		return c.Slide
	case 6:
		return c.Offset
	case 7:
		return c.Gap
	case 8:
		return c.Late
	case 9:
		return int64(c.Early)
	}
	panic("no field")
}

// with is a job with another number in one of its fields.
func with(c api.Config, f api.Field, x int64) api.Config {
	switch f {
	case 1:
		c.Groups = int(x)
	case 2:
		c.Sources = int(x)
	case 3:
		c.Kind = api.Kind(x)
	case 4:
		c.Size = x
	case 5:
		c.Slide = x
	case 6:
		c.Offset = x
	case 7:
		c.Gap = x
	case 8:
		c.Late = x
	case 9:
		c.Early = int(x)
	default:
		panic("no field")
	}
	return c
}

func within(x, from, to int64) bool { return from <= x && x <= to }

// enough tells whether MaxSlices times Slide is not below Size.
func enough(size, slide int64) bool {
	all := new(big.Int).Mul(big.NewInt(64), big.NewInt(slide))
	return all.Cmp(big.NewInt(size)) >= 0
}

// mayBeOf says which job may be, as DOC.md says it.
func mayBeOf(c api.Config) bool {
	if !within(int64(c.Groups), 1, 32768) || !within(int64(c.Sources), 1, 64) || !within(c.Late, 0, 1<<40) || !within(int64(c.Early), 0, 1<<31-1) {
		return false
	}
	switch c.Kind {
	case 1:
		return within(c.Size, 1, 1<<40) && c.Offset >= 0 && c.Offset < c.Size && c.Slide == 0 && c.Gap == 0
	case 2:
		return within(c.Size, 1, 1<<40) && within(c.Slide, 1, c.Size) && enough(c.Size, c.Slide) && c.Offset >= 0 && c.Offset < c.Slide && c.Gap == 0
	case 3:
		return within(c.Gap, 1, 1<<40) && c.Size == 0 && c.Slide == 0 && c.Offset == 0
	}
	return false
}

// fieldMayBe says whether a field may be, as the chapter says it.
func fieldMayBe(c api.Config, f api.Field) bool {
	isSliding, isSession := c.Kind == 2, c.Kind == 3
	switch f {
	case 1:
		return within(int64(c.Groups), 1, 32768)
	case 2:
		return within(int64(c.Sources), 1, 64)
	case 3:
		return within(int64(c.Kind), 1, 3)
	case 4:
		return isSession && c.Size == 0 || !isSession && within(c.Size, 1, 1<<40)
	case 5:
		return !isSliding && c.Slide == 0 || isSliding && within(c.Slide, 1, c.Size) && enough(c.Size, c.Slide)
	case 6:
		switch {
		case isSliding:
			return c.Offset >= 0 && c.Offset < c.Slide
		case isSession:
			return c.Offset == 0
		}
		return c.Offset >= 0 && c.Offset < c.Size
	case 7:
		return !isSession && c.Gap == 0 || isSession && within(c.Gap, 1, 1<<40)
	case 8:
		return within(c.Late, 0, 1<<40)
	case 9:
		return within(int64(c.Early), 0, 1<<31-1)
	}
	panic("no field")
}

// wrongOf is the first field that may not be, 0 if all may.
func wrongOf(c api.Config) api.Field {
	for f := api.Field(1); f <= 9; f++ {
		if !fieldMayBe(c, f) {
			return f
		}
	}
	return 0
}

// form is the number form of x.
func form(x uint64) []byte {
	var b []byte
	for {
		low := byte(x % 128)
		x /= 128
		if x == 0 {
			return append(b, low)
		}
		b = append(b, low+128)
	}
}

// values are a job's ten numbers in their order; none is below 0.
func values(c api.Config) []uint64 {
	var l []uint64
	for f := api.Field(1); f <= 9; f++ {
		l = append(l, uint64(number(c, f)))
	}
	if c.Discard {
		return append(l, 1)
	}
	return append(l, 0)
}

func formsOf(l []uint64) []byte {
	var b []byte
	for _, x := range l {
		b = append(b, form(x)...)
	}
	return b
}

// bytesOf are the bytes of any job without numbers below 0, whether it may be or not.
func bytesOf(c api.Config) []byte { return formsOf(values(c)) }

// readOf is the job with whose bytes b begins, found number by number.
func readOf(b []byte) (api.Config, int, api.Errno) {
	var c api.Config
	place := 0
	for f := api.Field(1); f <= 10; f++ {
		x, shift, size := new(big.Int), uint(0), 0
		for {
			if place+size == len(b) || size == 10 {
				return api.Config{}, 0, 210
			}
			last := b[place+size]
			x.Or(x, new(big.Int).Lsh(big.NewInt(int64(last%128)), shift))
			shift += 7
			size++
			if last < 128 {
				break
			}
		}
		if !x.IsInt64() || string(form(x.Uint64())) != string(b[place:place+size]) {
			return api.Config{}, 0, 210
		}
		place += size
		switch {
		case f < 10:
			c = with(c, f, x.Int64())
		case x.Int64() > 1:
			return api.Config{}, 0, 210
		default:
			c.Discard = x.Int64() == 1
		}
	}
	if !mayBeOf(c) {
		return api.Config{}, 0, 210
	}
	return c, place, 0
}

func kindName(k api.Kind) string { return []string{"", "tumbling", "sliding", "session"}[k] }

// textOf is the text of any job of one of the three kinds, whether it may be or not.
func textOf(c api.Config) string {
	discard := "no"
	if c.Discard {
		discard = "yes"
	}
	return fmt.Sprintf("groups %d sources %d kind %s size %d slide %d offset %d gap %d late %d early %d discard %s",
		c.Groups, c.Sources, kindName(c.Kind), c.Size, c.Slide, c.Offset, c.Gap, c.Late, c.Early, discard)
}

var textForm = regexp.MustCompile(strings.ReplaceAll(`\Agroups N sources N kind (tumbling|sliding|session) size N slide N offset N gap N late N early N discard (yes|no)\z`, "N", "(0|[1-9][0-9]*)"))

// parseOf is the job of a text.
func parseOf(text string) (api.Config, api.Errno) {
	m := textForm.FindStringSubmatch(text)
	if m == nil {
		return api.Config{}, 211
	}
	c := api.Config{Discard: m[10] == "yes"}
	for f := api.Field(1); f <= 9; f++ {
		if f == 3 {
			c.Kind = map[string]api.Kind{"tumbling": 1, "sliding": 2, "session": 3}[m[f]]
			continue
		}
		x, _ := new(big.Int).SetString(m[f], 10)
		if !x.IsInt64() {
			return api.Config{}, 211
		}
		c = with(c, f, x.Int64())
	}
	if !mayBeOf(c) {
		return api.Config{}, 211
	}
	return c, 0
}

// itemOf says whether an item may be, as DOC.md says it.
func itemOf(c api.Config, x api.Item) api.Errno {
	if !mayBeOf(c) {
		return 4
	}
	isTime := within(x.Time, -1<<62, 1<<62)
	switch {
	case x.Kind == 1 && len(x.Key) <= 256 && isTime && x.Source == 0:
		return 0
	case x.Kind == 2 && x.Source >= 0 && x.Source <= c.Sources-1 && isTime && x.Key == "" && x.Value == 0:
		return 0
	case x.Kind == 3 && x.Key == "" && x.Time == 0 && x.Value == 0 && x.Source == 0:
		return 0
	}
	return 5
}

// keyOf says whether a key's state is in order; every window is held against every one behind it.
func keyOf(c api.Config, k api.KeyState) api.Errno {
	if !mayBeOf(c) {
		return 4
	}
	ok := len(k.Key) <= 256 && within(k.Dropped, 0, 1<<53)
	for i, a := range k.Windows {
		ok = ok && within(a.Count, 0, 1<<53) && within(a.Since, 0, 1<<53) && within(a.Panes, 0, 1<<53)
		ok = ok && a.Start < a.End && a.Start >= -1<<62-1<<40 && a.End <= 1<<62+1<<40
		for _, b := range k.Windows[i+1:] {
			rise := a.Start < b.Start || a.Start == b.Start && a.End < b.End
			overlap := max(a.Start, b.Start) < min(a.End, b.End)
			ok = ok && rise && !(c.Kind == 3 && overlap)
		}
	}
	if !ok {
		return 6
	}
	return 0
}

// stateOf says whether a state is in order.
func stateOf(s api.State) api.Errno {
	if !mayBeOf(s.Config) {
		return 4
	}
	ok := len(s.Marks) == s.Config.Sources
	for _, t := range s.Marks {
		ok = ok && within(t, -1<<62, 1<<62)
	}
	for i, k := range s.Keys {
		ok = ok && keyOf(s.Config, k) == 0 && (len(k.Windows) > 0 || k.Dropped != 0)
		for _, other := range s.Keys[i+1:] {
			ok = ok && strings.Compare(k.Key, other.Key) < 0
		}
	}
	if !ok {
		return 6
	}
	return 0
}

// edges are numbers at and beside those where something may go round, or turns.
func edges() []int64 {
	var l []int64
	for _, n := range []int64{least + 1, api.MinTime - api.MaxSpan, api.MinTime, -api.MaxSpan, -1 << 32, 1, 4, api.MaxSources, api.MaxGroups, api.MaxEarly, 1 << 32, api.MaxSpan, api.MaxSpan / api.MaxSlices, api.MaxCount, 1 << 58, api.MaxTime, api.MaxTime + api.MaxSpan, greatest - 1} {
		l = append(l, n-1, n, n+1)
	}
	return l
}

// anyNumber is a number of any size, as often near an edge as not.
func anyNumber(r *rand.Rand) int64 {
	if r.Intn(2) == 0 {
		l := edges()
		return l[r.Intn(len(l))]
	}
	return int64(r.Uint64()) >> r.Intn(64)
}

// span1 is a number from 1 to most, of any size.
func span1(r *rand.Rand, most int64) int64 {
	switch r.Intn(4) {
	case 0:
		return 1
	case 1:
		return most
	}
	return 1 + r.Int63n(1+(most-1)>>r.Intn(40))
}

// anyGood is a job that may be.
func anyGood(r *rand.Rand) api.Config {
	c := api.Config{
		Groups: int(span1(r, api.MaxGroups)), Sources: int(span1(r, api.MaxSources)), Kind: api.Kind(1 + r.Intn(3)),
		Late: span1(r, api.MaxSpan+1) - 1, Early: int(span1(r, api.MaxEarly+1) - 1), Discard: r.Intn(2) == 0,
	}
	switch c.Kind {
	case api.Tumbling:
		c.Size = span1(r, api.MaxSpan)
		c.Offset = span1(r, c.Size) - 1
	case api.Sliding:
		c.Size = span1(r, api.MaxSpan)
		low := (c.Size + 63) / 64
		c.Slide = low - 1 + span1(r, c.Size-low+1)
		c.Offset = span1(r, c.Slide) - 1
	case api.Session:
		c.Gap = span1(r, api.MaxSpan)
	}
	return c
}

// anyJob is a job that may be, in some fields of which there may be something else.
func anyJob(r *rand.Rand) api.Config {
	c := anyGood(r)
	for range r.Intn(4) {
		f := api.Field(1 + r.Intn(9))
		if r.Intn(2) == 0 {
			c = with(c, f, number(c, f)+int64(r.Intn(3))-1)
		} else {
			c = with(c, f, anyNumber(r))
		}
	}
	return c
}
