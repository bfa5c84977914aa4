package worker

import (
	"slices"

	"keepsake/api"
	"keepsake/config"
	"keepsake/groups"
)

// job is what a worker is there for: a job, and the stretch of its groups that is the worker's.
type job struct {
	config        api.Config
	first, behind int
}

// isOwn tells whether a key's group lies in the stretch.
func (j job) isOwn(key string) bool {
	group, e := groups.Group(key, j.config.Groups)
	return e == api.OK && j.first <= group && group < j.behind
}

// mayBe tells whether a message may be: as an item of its kind, which has the same number; a mark's source is said to be 0, which each job has.
func (j job) mayBe(m api.Msg) bool {
	it := api.Item{Kind: api.ItemKind(m.Kind), Key: m.Key, Time: m.Time, Value: m.Value}
	return m.Seq >= 0 && config.Item(j.config, it) == api.OK
}

// check tells what is wrong with keys that are to be the worker's.
func (j job) check(l []api.KeyState) api.Errno {
	// They are looked at as the keys of a state are, whatever its marks.
	marks := slices.Repeat([]int64{api.MinTime}, j.config.Sources)
	if e := config.State(api.State{Config: j.config, Marks: marks, Keys: l}); e != api.OK {
		return e
	}
	for _, k := range l {
		if !j.isOwn(k.Key) {
			return api.ErrOther
		}
	}
	return api.OK
}
