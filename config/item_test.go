package config_test

import (
	"math/rand"
	"strings"
	"testing"

	"keepsake/api"
	"keepsake/config"
)

func event(key string, time, value int64) api.Item {
	return api.Item{Kind: api.ItemEvent, Key: key, Time: time, Value: value}
}

func mark(source int, time int64) api.Item {
	return api.Item{Kind: api.ItemMark, Source: source, Time: time}
}

func save() api.Item { return api.Item{Kind: api.ItemSave} }

// item holds Item against what is wanted.
func item(t *testing.T, c api.Config, x api.Item, want api.Errno) {
	t.Helper()
	if e := config.Item(c, x); e != want {
		t.Errorf("Item(%+v, %+v) is %d, want %d", c, x, e, want)
	}
	if e := itemOf(c, x); e != want {
		t.Errorf("the model says of %+v, %+v %d", c, x, e)
	}
}

func TestItemExamples(t *testing.T) {
	x := save()
	x.Value = 1
	item(t, example(), mark(1, 0), api.ErrItem)
	item(t, example(), event("a", 4611686018427387905, 0), api.ErrItem)
	item(t, example(), x, api.ErrItem)
	item(t, example(), event("", 0, 0), api.OK)
}

// Times, sources, keys and values at their bounds, one past them, and far away.
func TestItemsAtTheirBounds(t *testing.T) {
	for _, c := range kinds() {
		for _, time := range edges() {
			want := api.OK
			if time < -1<<62 || time > 1<<62 {
				want = api.ErrItem
			}
			item(t, c, event("a", time, 5), want)
			item(t, c, mark(0, time), want)
			item(t, c, event("a", 0, time), api.OK) // a value may be any
		}
		item(t, c, event("a", -1<<62, 0), api.OK)
		item(t, c, event("a", -1<<62-1, 0), api.ErrItem)
		item(t, c, event("a", 1<<62, 0), api.OK)
		item(t, c, event("a", 1<<62+1, 0), api.ErrItem)
		item(t, c, event("a", 0, least), api.OK)
		item(t, c, event("a", 0, greatest), api.OK)
		for _, n := range []int{0, 1, 2, 255, 256, 257, 258, 512, 1 << 16, 1 << 20} {
			want := api.OK
			if n > 256 {
				want = api.ErrItem
			}
			item(t, c, event(strings.Repeat("k", n), 0, 0), want)
			item(t, c, event(strings.Repeat("\xff", n), 0, 0), want)
			item(t, c, event(strings.Repeat("\x00", n), 0, 0), want)
		}
		// Bytes are counted, not letters.
		item(t, c, event(strings.Repeat("ü", 128), 0, 0), api.OK)
		item(t, c, event(strings.Repeat("ü", 129), 0, 0), api.ErrItem)
		for _, source := range []int{0, c.Sources - 1} {
			item(t, c, mark(source, 0), api.OK)
		}
		for _, source := range []int{-1, c.Sources, c.Sources + 1, 65, 1 << 32, -1 << 32, least, greatest} {
			item(t, c, mark(source, 0), api.ErrItem)
		}
	}
	for sources := 1; sources <= 64; sources++ {
		c := with(example(), api.FieldSources, int64(sources))
		for source := -2; source < 70; source++ {
			want := api.OK
			if source < 0 || source >= sources {
				want = api.ErrItem
			}
			item(t, c, mark(source, 7), want)
		}
	}
}

// What an item's kind does not name must be nought.
func TestItemsWithMoreThanTheirKindNames(t *testing.T) {
	set := []func(x *api.Item){
		func(x *api.Item) { x.Key = "a" },
		func(x *api.Item) { x.Key = "\x00" },
		func(x *api.Item) { x.Time = 1 },
		func(x *api.Item) { x.Time = -1 },
		func(x *api.Item) { x.Value = 1 },
		func(x *api.Item) { x.Value = least },
		func(x *api.Item) { x.Source = 1 },
		func(x *api.Item) { x.Source = -1 },
	}
	// Which of them a kind names; of the sources there are three.
	named := map[api.ItemKind][]bool{
		api.ItemEvent: {true, true, true, true, true, true, false, false},
		api.ItemMark:  {false, false, true, true, false, false, true, false},
		api.ItemSave:  {false, false, false, false, false, false, false, false},
	}
	for kind, l := range named {
		item(t, sliding(), api.Item{Kind: kind}, api.OK)
		for i, may := range l {
			x := api.Item{Kind: kind}
			set[i](&x)
			want := api.ErrItem
			if may {
				want = api.OK
			}
			item(t, sliding(), x, want)
		}
	}
}

func TestItemsOfNoKind(t *testing.T) {
	for _, kind := range []api.ItemKind{0, -1, 4, 5, 257, 1 << 32, 1<<32 + 1, least, greatest} {
		item(t, example(), api.Item{Kind: kind}, api.ErrItem)
		item(t, example(), api.Item{Kind: kind, Key: "a", Time: 3, Value: 4}, api.ErrItem)
		item(t, example(), api.Item{Kind: kind, Time: 3}, api.ErrItem)
	}
}

// A job that may not be comes ahead of an item that may not be.
func TestItemsOfWrongJobs(t *testing.T) {
	for _, c := range kinds() {
		for f := api.FieldGroups; f <= api.FieldEarly; f++ {
			for _, x := range []api.Item{event("a", 0, 0), mark(0, 0), save(), {}, mark(-1, 0), event("a", greatest, 0)} {
				item(t, with(c, f, -1), x, api.ErrJob)
				item(t, with(c, f, greatest), x, api.ErrJob)
			}
		}
	}
	item(t, api.Config{}, save(), api.ErrJob)
	item(t, with(example(), api.FieldSources, 65), mark(64, 0), api.ErrJob)
}

func TestItemsOfAny(t *testing.T) {
	r := rand.New(rand.NewSource(7))
	may := 0
	for i := range 100000 {
		c := anyGood(r)
		if i%8 == 0 {
			c = anyJob(r)
		}
		x := api.Item{Kind: api.ItemKind(r.Intn(5))}
		if r.Intn(2) == 0 {
			x.Key = strings.Repeat("k", r.Intn(3)*r.Intn(200))
		}
		if r.Intn(2) == 0 {
			x.Time = anyNumber(r)
		}
		if r.Intn(2) == 0 {
			x.Value = anyNumber(r)
		}
		if r.Intn(2) == 0 {
			x.Source = r.Intn(c.Sources&255+3) - 1
		}
		want := itemOf(c, x)
		if item(t, c, x, want); t.Failed() {
			t.FailNow()
		}
		if want == api.OK {
			may++
		}
	}
	if may < 10000 {
		t.Errorf("only %d items may be", may)
	}
}
