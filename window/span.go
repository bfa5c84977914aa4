package window

import (
	"cmp"
	"math"

	"keepsake/api"
)

// Overlap tells whether both are windows that have a time in common.
func Overlap(a, b api.Span) bool {
	return isWindow(a) && isWindow(b) && a.Start < b.End && b.Start < a.End
}

// Join is the span from the least Start to the greatest End of those that are windows; false, if none is one.
func Join(l ...api.Span) (api.Span, bool) {
	var all api.Span
	found := false
	for _, s := range l {
		switch {
		case !isWindow(s):
			continue
		case !found:
			all, found = s, true
		}
		all.Start, all.End = min(all.Start, s.Start), max(all.End, s.End)
	}
	return all, found
}

// Due tells whether w has come to a span's end.
func Due(s api.Span, w int64) bool { return s.End <= w }

// Over tells whether w has come to a span's end and late more.
func Over(s api.Span, late, w int64) bool {
	switch {
	case late > 0 && s.End > math.MaxInt64-late:
		return false // together they are above all numbers
	case late < 0 && s.End < math.MinInt64-late:
		return true // together they are below all numbers
	}
	return s.End+late <= w
}

// Compare orders two spans by Start, then by End.
func Compare(a, b api.Span) int {
	if c := cmp.Compare(a.Start, b.Start); c != 0 {
		return c
	}
	return cmp.Compare(a.End, b.End)
}

// isWindow tells whether a span holds a time.
func isWindow(s api.Span) bool { return s.Start < s.End }
