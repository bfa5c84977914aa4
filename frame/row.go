package frame

import (
	"iter"

	"keepsake/api"
)

// All reads a row of frames.
func All(b []byte) ([]api.Block, int, api.Errno) {
	var blocks []api.Block
	place, wrong := 0, api.OK

frames:
	for place < len(b) {
		x, size, e := Read(b[place:])
		switch e {
		case api.OK:
			blocks = append(blocks, x)
			place += size
		default:
			blocks, wrong = nil, e
			break frames
		}
	}
	return blocks, place, wrong
}

// Each goes over frames.
func Each(b []byte) iter.Seq2[int, api.Block] {
	// The caller may change b ahead of going over it, or between two times.
	return each(fresh(b))
}

// each goes over the frames of b as it is by then.
func each(b []byte) iter.Seq2[int, api.Block] {
	return func(yield func(int, api.Block) bool) {
		for place := 0; place < len(b); {
			x, size, e := Read(b[place:])
			if e != api.OK || !yield(place, x) {
				return
			}
			place += size
		}
	}
}

// Just reads frames that must have these tags.
func Just(b []byte, tags ...byte) ([][]byte, int, api.Errno) {
	var bodies [][]byte
	behind := 0
	for place, x := range each(b) {
		nth := len(bodies)
		if nth == len(tags) || x.Tag != tags[nth] {
			return nil, place, api.ErrTag
		}
		bodies = append(bodies, x.Body)
		behind = place + Size(len(x.Body))
	}
	if behind < len(b) {
		// Going over them ended ahead of a wrong frame: what is wrong with it, Read tells.
		_, _, e := Read(b[behind:])
		return nil, behind, e
	}
	if len(bodies) < len(tags) {
		return nil, behind, api.ErrTag
	}
	return bodies, behind, api.OK
}
