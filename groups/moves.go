package groups

import (
	"strings"

	"keepsake/api"
)

// Moves tells which groups go from one worker to another one.
func Moves(from, to, groups int) ([]api.Move, api.Errno) {
	if !workersMayBe(from, groups) || !workersMayBe(to, groups) {
		return nil, api.ErrArg
	}
	var moves []api.Move

olds:
	for old, had := range Stretches(from, groups) {
		for taker := workerOf(had[0], to, groups); ; taker++ {
			has := stretch(taker, to, groups)
			first, behind := max(had[0], has[0]), min(had[1], has[1])
			if taker != old {
				moves = append(moves, api.Move{First: first, Behind: behind, From: old, To: taker})
			}
			if behind == had[1] {
				continue olds
			}
		}
	}
	return moves, api.OK
}

// Deal gives each worker the keys that are its own.
func Deal(workers, groups int, keys ...string) ([][]string, api.Errno) {
	if !workersMayBe(workers, groups) {
		return nil, api.ErrArg
	}
	for _, key := range keys {
		if len(key) > api.MaxKey {
			return nil, api.ErrLong
		}
	}
	own := make([][]string, workers)
	for _, key := range keys {
		w := workerOf(groupOf(key, groups), workers, groups)
		// A key may be a piece of a long text, all of which would be kept with it.
		own[w] = append(own[w], strings.Clone(key))
	}
	return own, api.OK
}
