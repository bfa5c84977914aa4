package config

import (
	"strconv"
	"strings"

	"keepsake/api"
)

// words stand ahead of a job's values in its text.
var words = [places]string{"groups", "sources", "kind", "size", "slide", "offset", "gap", "late", "early", "discard"}

// names are those of a number at its place, where it is told by a name: that of the number first comes first. Of the others there are none.
func names(at int) (l []string, first int64) {
	switch at {
	case atKind:
		return []string{"tumbling", "sliding", "session"}, int64(api.Tumbling)
	case atDiscard:
		return []string{"no", "yes"}, 0
	}
	return nil, 0
}

// Text is a job's text.
func Text(c api.Config) (string, api.Errno) {
	if e := Check(c); e != api.OK {
		return "", e
	}
	var parts []string
	for at, x := range numbersOf(c) {
		parts = append(parts, words[at], value(at, x))
	}
	return strings.Join(parts, " "), api.OK
}

// value is a number as it stands in a text; it may be at its place.
func value(at int, x int64) string {
	l, first := names(at)
	if len(l) == 0 {
		return strconv.FormatInt(x, 10)
	}
	return l[x-first]
}

// Parse is the job of a text.
func Parse(text string) (api.Config, api.Errno) {
	c := parseNumbers(text).job()
	if c == (api.Config{}) {
		return api.Config{}, api.ErrText
	}
	return c, api.OK
}

// parseNumbers finds the values behind their words; noughts, which are no job's, if a word is another one, or a value is none.
func parseNumbers(text string) numbers {
	var n numbers
	// What there is too much stays in the last part, and makes it no value.
	parts := strings.SplitN(text, " ", 2*places)
	if len(parts) != 2*places {
		return numbers{}
	}
values:
	for at, word := range words {
		if parts[2*at] != word {
			return numbers{}
		}
		told := parts[2*at+1]
		l, first := names(at)
		for i, name := range l {
			if name == told {
				n[at] = first + int64(i)
				continue values
			}
		}
		x, ok := parseNumber(told)
		if len(l) > 0 || !ok {
			return numbers{} // where there are names, digits are none of them
		}
		n[at] = x
	}
	return n
}

// parseNumber reads decimal digits; false, if the number that they say is not written by just these.
func parseNumber(told string) (int64, bool) {
	x, err := strconv.ParseInt(told, 10, 64)
	if err != nil || strconv.FormatInt(x, 10) != told {
		return 0, false
	}
	return x, true
}
