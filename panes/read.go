package panes

import (
	"strconv"
	"strings"

	"keepsake/api"
)

// read is the pane whose line it is, and whether there is one.
func read(line string) (api.Pane, bool) {
	var (
		c    = course{rest: line}
		key  []byte
		kind api.PaneKind
		all  numbers
		at   int // how many numbers have been read
		b    byte
		is   bool
	)
	if !c.take(quote) {
		goto none
	}
inKey:
	b, is = c.next()
	switch {
	case !is || len(key) > api.MaxKey:
		goto none
	case b == quote:
		goto behindKey
	case b == escape:
		goto inCode
	case !itself(b):
		goto none
	}
	key = append(key, b)
	goto inKey
inCode:
	if b, is = c.code(); !is {
		goto none
	}
	key = append(key, b)
	goto inKey
behindKey:
	if !c.take(blank) {
		goto none
	}
	if kind, is = kindOf(c.word()); !is {
		goto none
	}
inNumbers:
	if !c.take(blank) {
		goto none
	}
	if all[at], is = numberOf(c.word()); !is {
		goto none
	}
	if at++; at < len(all) {
		goto inNumbers
	}
	if c.rest == "" {
		return paneOf(string(key), kind, all), true
	}
none:
	return api.Pane{}, false
}

// paneOf puts a pane together out of what stands in its line.
func paneOf(key string, kind api.PaneKind, n numbers) api.Pane {
	return api.Pane{
		Key:   key,
		Span:  api.Span{Start: n[0], End: n[1]},
		Kind:  kind,
		Nth:   n[2],
		Tally: api.Tally{Count: n[3], Sum: n[4], Min: n[5], Max: n[6]},
	}
}

// kindOf is the kind that is called so, and whether there is one.
func kindOf(word string) (api.PaneKind, bool) {
	for kind := api.Early; kind <= api.Late; kind++ {
		if kinds[kind] == word {
			return kind, true
		}
	}
	return 0, false
}

// numberOf is the number that is written so, and whether there is one: the library reads more forms than the one in which it writes.
func numberOf(word string) (int64, bool) {
	if len(word) > longest {
		return 0, false
	}
	x, err := strconv.ParseInt(word, 10, 64)
	if err != nil || strconv.FormatInt(x, 10) != word {
		return 0, false
	}
	return x, true
}

// course is what of a line has not been read yet.
type course struct{ rest string }

// next takes the next byte, if there is one.
func (c *course) next() (byte, bool) {
	if c.rest == "" {
		return 0, false
	}
	b := c.rest[0]
	c.rest = c.rest[1:]
	return b, true
}

// take takes the next byte, and tells whether it is that one.
func (c *course) take(b byte) bool {
	got, is := c.next()
	return is && got == b
}

// word takes all bytes ahead of the next blank, or of the line's end.
func (c *course) word() string {
	end := strings.IndexByte(c.rest, blank)
	if end < 0 {
		end = len(c.rest)
	}
	word := c.rest[:end]
	c.rest = c.rest[end:]
	return word
}

// code takes what stands in a quoted key for a byte behind its escape: such a byte, and whether there is one.
func (c *course) code() (byte, bool) {
	if len(c.rest) < 3 || c.rest[0] != 'x' {
		return 0, false
	}
	high := strings.IndexByte(digits, c.rest[1])
	low := strings.IndexByte(digits, c.rest[2])
	c.rest = c.rest[3:]
	if high < 0 || low < 0 || itself(byte(high<<4|low)) {
		return 0, false
	}
	return byte(high<<4 | low), true
}
