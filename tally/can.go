package tally

import (
	"math/bits"

	"keepsake/api"
)

// Can tells whether there are values with that tally.
func Can(t api.Tally) bool {
	switch {
	case t.Count == 0:
		return t == api.Tally{}
	case t.Count < 0 || t.Count > api.MaxCount || t.Min > t.Max:
		return false
	case t.Count == 1:
		return t.Min == t.Sum && t.Max == t.Sum
	case t.Count < api.MaxCount:
		return isReached(t)
	}
	// Values may be more than MaxCount: as many as it takes to reach any sum, unless all of them are the same.
	return t.Min < t.Max || isMultiple(t.Sum, t.Min)
}

// isReached tells whether the sum is one of just so many values, two or more.
func isReached(t api.Tally) bool {
	// One value is the least, one the greatest; the others, be they all the least at first, may be raised step by step.
	others := uint64(t.Count - 2)
	lowest := uint64(t.Min) + uint64(t.Max) + others*uint64(t.Min)
	raised := uint64(t.Sum) - lowest
	high, low := bits.Mul64(others, Width(t))
	return high > 0 || raised <= low
}

// isMultiple tells whether some whole number times n is the sum, modulo 2 to the power 64.
func isMultiple(sum, n int64) bool {
	// What is odd in n can be undone there, so that the twos in it alone count; 0 has 64 of them.
	return bits.TrailingZeros64(uint64(sum)) >= bits.TrailingZeros64(uint64(n))
}
