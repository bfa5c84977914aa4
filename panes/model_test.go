package panes_test

import (
	"cmp"
	"fmt"
	"math"
	"math/big"
	"math/rand"
	"regexp"
	"slices"
	"strconv"
	"strings"

	"keepsake/api"
)

// The chapter's words, in the plainest way: lines by the library's forms and patterns, lists by maps that are put in order.

const (
	least    = math.MinInt64
	greatest = math.MaxInt64
)

var kindNames = map[api.PaneKind]string{api.Early: "early", api.OnTime: "ontime", api.Late: "late"}

// pane is one with all its fields.
func pane(key string, start, end int64, kind api.PaneKind, n ...int64) api.Pane {
	return api.Pane{Key: key, Span: api.Span{Start: start, End: end}, Kind: kind, Nth: n[0], Tally: api.Tally{Count: n[1], Sum: n[2], Min: n[3], Max: n[4]}}
}

// of is a pane of a key, by its Nth.
func of(key string, n int64) api.Pane { return api.Pane{Key: key, Kind: api.Early, Nth: n} }

func mayBe(p api.Pane) bool { return len(p.Key) <= 256 && kindNames[p.Kind] != "" }

func quoted(key string) string {
	var b strings.Builder
	for i := range len(key) {
		if c := key[i]; c < 32 || c > 126 || c == 34 || c == 92 {
			fmt.Fprintf(&b, `\x%02x`, c)
		} else {
			b.WriteByte(c)
		}
	}
	return `"` + b.String() + `"`
}

func lineOf(p api.Pane) string {
	return fmt.Sprintf("%s %s %d %d %d %d %d %d %d", quoted(p.Key), kindNames[p.Kind], p.Start, p.End, p.Nth, p.Count, p.Sum, p.Min, p.Max)
}

func textOf(list []api.Pane) string {
	var b strings.Builder
	for _, p := range list {
		b.WriteString(lineOf(p) + "\n")
	}
	return b.String()
}

var linePattern = regexp.MustCompile(`\A"((?:[ !#-\[\]-~]|\\x[0-9a-f][0-9a-f])*)" (early|ontime|late)((?: (?:0|-?[1-9][0-9]*)){7})\z`)

// paneOf is the pane of a line, and whether there is one.
func paneOf(line string) (api.Pane, bool) {
	m := linePattern.FindStringSubmatch(line)
	if m == nil {
		return api.Pane{}, false
	}
	key := regexp.MustCompile(`\\x..`).ReplaceAllStringFunc(m[1], func(code string) string {
		n, _ := strconv.ParseUint(code[2:], 16, 8)
		return string([]byte{byte(n)})
	})
	var n []int64
	for _, word := range strings.Fields(m[3]) {
		x, _ := new(big.Int).SetString(word, 10)
		if !x.IsInt64() {
			return api.Pane{}, false
		}
		n = append(n, x.Int64())
	}
	kind := map[string]api.PaneKind{"early": 1, "ontime": 2, "late": 3}[m[2]]
	p := pane(key, n[0], n[1], kind, n[2:]...)
	// A byte that must stand for itself is written otherwise than the line has it.
	return p, len(key) <= 256 && lineOf(p) == line
}

// panesOf is what a text's lines tell: the panes; or none, and the first line that is none.
func panesOf(text string) ([]api.Pane, int, bool) {
	var list []api.Pane
	lines := strings.Split(text, "\n")
	last := len(lines) - 1
	for i, line := range lines[:last] {
		p, is := paneOf(line)
		if !is {
			return nil, i, false
		}
		list = append(list, p)
	}
	if lines[last] != "" {
		return nil, last, false
	}
	return list, len(list), true
}

func fields(p api.Pane) []int64 {
	return []int64{p.Start, p.End, int64(p.Kind), p.Nth, p.Count, p.Sum, p.Min, p.Max}
}

func compareOf(a, b api.Pane) int {
	if a.Key != b.Key {
		return slices.Compare([]byte(a.Key), []byte(b.Key))
	}
	return slices.Compare(fields(a), fields(b))
}

func keysOf(list []api.Pane) []api.KeyPanes {
	rows := map[string][]api.Pane{}
	for _, p := range list {
		rows[p.Key] = append(rows[p.Key], p)
	}
	var l []api.KeyPanes
	for key, row := range rows {
		l = append(l, api.KeyPanes{Key: key, Panes: row})
	}
	slices.SortFunc(l, func(a, b api.KeyPanes) int { return slices.Compare([]byte(a.Key), []byte(b.Key)) })
	return l
}

// lastOf looks, for each pane, whether a later one is of its key and window.
func lastOf(list []api.Pane) []api.Pane {
	var l []api.Pane
	for i, p := range list {
		if !slices.ContainsFunc(list[i+1:], func(q api.Pane) bool { return q.Key == p.Key && q.Span == p.Span }) {
			l = append(l, p)
		}
	}
	slices.SortFunc(l, func(a, b api.Pane) int {
		return cmp.Or(slices.Compare([]byte(a.Key), []byte(b.Key)), cmp.Compare(a.Start, b.Start), cmp.Compare(a.End, b.End))
	})
	return l
}

func ofKey(list []api.Pane, key string) []api.Pane {
	var l []api.Pane
	for _, p := range list {
		if p.Key == key {
			l = append(l, p)
		}
	}
	return l
}

func beginsOf(a, b []api.Pane) bool {
	for _, p := range a {
		first, whole := ofKey(a, p.Key), ofKey(b, p.Key)
		if len(first) > len(whole) || !slices.Equal(first, whole[:len(first)]) {
			return false
		}
	}
	return true
}

func alikeOf(a, b []api.Pane) bool {
	for _, p := range slices.Concat(a, b) {
		if !slices.Equal(ofKey(a, p.Key), ofKey(b, p.Key)) {
			return false
		}
	}
	return true
}

func sameRows(a, b []api.KeyPanes) bool {
	return slices.EqualFunc(a, b, func(x, y api.KeyPanes) bool { return x.Key == y.Key && slices.Equal(x.Panes, y.Panes) })
}

// drawer draws panes that have much in common, so that keys, windows and whole panes come again.
type drawer struct {
	*rand.Rand
	names []string
}

func newDrawer(r *rand.Rand) *drawer {
	all := []string{"", "a", "b", "ab", "a b", "\"", "\\", "\\x61", "\n", "\xc8", "é", "\x00", "\x7f", strings.Repeat("k", 256), strings.Repeat("\x01", 256)}
	r.Shuffle(len(all), func(i, k int) { all[i], all[k] = all[k], all[i] })
	return &drawer{r, all[:1+r.Intn(5)]}
}

func (d *drawer) number() int64 {
	switch d.Intn(8) {
	case 0:
		return []int64{least, least + 1, -1, 0, 9, 10, greatest - 1, greatest}[d.Intn(8)]
	case 1:
		return int64(d.Uint64())
	}
	return d.Int63n(5) - 2
}

func (d *drawer) pane() api.Pane {
	p := pane(d.names[d.Intn(len(d.names))], d.Int63n(3), d.Int63n(3), api.PaneKind(1+d.Intn(3)), d.Int63n(3), 0, 0, 0, 0)
	if d.Intn(3) == 0 {
		p = pane(p.Key, d.number(), d.number(), p.Kind, d.number(), d.number(), d.number(), d.number(), d.number())
	}
	return p
}

func (d *drawer) list(n int) []api.Pane {
	var l []api.Pane
	for range n {
		l = append(l, d.pane())
	}
	return l
}

// mixed is a list alike that one, in another order of the keys.
func (d *drawer) mixed(list []api.Pane) []api.Pane {
	rows := keysOf(list)
	var l []api.Pane
	for len(rows) > 0 {
		i := d.Intn(len(rows))
		l = append(l, rows[i].Panes[0])
		if rows[i].Panes = rows[i].Panes[1:]; len(rows[i].Panes) == 0 {
			rows = slices.Delete(rows, i, i+1)
		}
	}
	return l
}

// spoilt is a text changed a little.
func (d *drawer) spoilt(text string) string {
	signs := []string{"", " ", "\n", "\t", "0", "-", "+", "9", "x", "\"", "\\", "\\x61", "\\x0A", "a", "early", "Late", "\x00", "\xff", "_", "."}
	at := d.Intn(len(text) + 1)
	until := min(len(text), at+d.Intn(3))
	return text[:at] + signs[d.Intn(len(signs))] + text[until:]
}
