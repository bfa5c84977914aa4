package panes

import (
	"strconv"

	"keepsake/api"
)

const (
	quote   = '"'
	escape  = '\\'
	blank   = ' '
	lineEnd = "\n"
	// digits are those to the base 16, each at its value.
	digits = "0123456789abcdef"
	// longest is how many bytes a number has at most: the least one has them.
	longest = len("-9223372036854775808")
)

// kinds are what a pane's kinds are called, each at its number; at 0, which is no kind, stands no word.
var kinds = [...]string{api.Early: "early", api.OnTime: "ontime", api.Late: "late"}

// numbers are a pane's, in the order in which they stand behind its kind.
type numbers [7]int64

// mayBe tells whether a pane has a line.
func mayBe(p api.Pane) bool {
	return len(p.Key) <= api.MaxKey && p.Kind >= api.Early && p.Kind <= api.Late
}

// itself tells whether a byte stands for itself in a quoted key.
func itself(b byte) bool { return b >= ' ' && b <= '~' && b != quote && b != escape }

// write puts the line of a pane that may be behind a text.
func write(text []byte, p api.Pane) []byte {
	text = append(text, quote)
	for _, b := range []byte(p.Key) {
		if itself(b) {
			text = append(text, b)
		} else {
			text = append(text, escape, 'x', digits[b>>4], digits[b&15])
		}
	}
	text = append(text, quote, blank)
	text = append(text, kinds[p.Kind]...)
	for _, x := range (numbers{p.Start, p.End, p.Nth, p.Count, p.Sum, p.Min, p.Max}) {
		text = strconv.AppendInt(append(text, blank), x, 10)
	}
	return text
}
