package groups

import (
	"iter"

	"keepsake/api"
)

// Stretch is the first group of a worker's stretch, and the one behind its last.
func Stretch(worker, workers, groups int) (int, int, api.Errno) {
	if !workersMayBe(workers, groups) || worker < 0 || worker >= workers {
		return 0, 0, api.ErrArg
	}
	s := stretch(worker, workers, groups)
	return s[0], s[1], api.OK
}

// Worker is the worker whose stretch has the group.
func Worker(group, workers, groups int) (int, api.Errno) {
	if !workersMayBe(workers, groups) || group < 0 || group >= groups {
		return 0, api.ErrArg
	}
	return workerOf(group, workers, groups), api.OK
}

// Of is the worker whose stretch has the key's group.
func Of(key string, workers, groups int) (int, api.Errno) {
	switch {
	case !workersMayBe(workers, groups):
		return 0, api.ErrArg
	case len(key) > api.MaxKey:
		return 0, api.ErrLong
	}
	return workerOf(groupOf(key, groups), workers, groups), api.OK
}

// Stretches goes over the workers, rising, with their stretches.
func Stretches(workers, groups int) iter.Seq2[int, [2]int] {
	return func(yield func(int, [2]int) bool) {
		if !workersMayBe(workers, groups) {
			return
		}
		for worker := range workers {
			if !yield(worker, stretch(worker, workers, groups)) {
				return
			}
		}
	}
}

// stretch is a worker's first group, and the one behind its last, where the numbers may be.
func stretch(worker, workers, groups int) [2]int {
	return [2]int{worker * groups / workers, (worker + 1) * groups / workers}
}

// workerOf is whose stretch has the group, where the numbers may be.
func workerOf(group, workers, groups int) int {
	// It is the last worker w whose stretch begins at the group or ahead of it: w * groups is below (group + 1) * workers.
	return ((group+1)*workers - 1) / groups
}
