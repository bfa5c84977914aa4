package window

import (
	"math"

	"keepsake/api"
)

// Floor is the greatest number not above t of which the offset is a multiple of the step away.
func Floor(t, offset, step int64) (int64, api.Errno) {
	if step < 1 {
		return 0, api.ErrArg
	}
	far := above(t, offset, step)
	if t < math.MinInt64+far {
		return 0, api.ErrArg
	}
	return t - far, api.OK
}

// above is how far t lies above its floor: from 0 to step - 1.
func above(t, offset, step int64) int64 {
	// Rests are taken from each other, since t and the offset may lie further apart than the numbers go.
	return rest(rest(t, step)-rest(offset, step), step)
}

// rest is how far n lies above the greatest multiple of the step that is not above it.
func rest(n, step int64) int64 {
	r := n % step
	switch {
	case r < 0: // of a negative number the remainder is told from the multiple above it
		r += step
		fallthrough
	default:
		return r
	}
}
