package panes_test

import (
	"fmt"
	"math"
	"math/rand"
	"slices"
	"strings"
	"testing"

	"keepsake/api"
	"keepsake/panes"
)

// late is the examples' pane, and lateLine its line.
func late() api.Pane { return pane("a", 0, 10, api.Late, 2, 3, 6, -2, 7) }

const lateLine = `"a" late 0 10 2 3 6 -2 7`

// written holds a pane's line against the chapter's, both ways.
func written(t *testing.T, p api.Pane) {
	t.Helper()
	line, e := panes.Line(p)
	if !mayBe(p) {
		if line != "" || e != api.ErrArg {
			t.Errorf("Line(%+v) is %q, %d", p, line, e)
		}
		return
	}
	if line != lineOf(p) || e != api.OK {
		t.Errorf("Line(%+v) is %q, %d", p, line, e)
	}
	if q, e := panes.Parse(line); q != p || e != api.OK {
		t.Errorf("Parse(%q) is %+v, %d", line, q, e)
	}
}

// parsed holds what a line tells against the chapter, both ways.
func parsed(t *testing.T, line string) {
	t.Helper()
	p, e := panes.Parse(line)
	want, is := paneOf(line)
	if !is {
		if p != (api.Pane{}) || e != api.ErrPane {
			t.Errorf("Parse(%q) is %+v, %d", line, p, e)
		}
		return
	}
	if p != want || e != api.OK {
		t.Errorf("Parse(%q) is %+v, %d; want %+v", line, p, e, want)
	}
	if again, e := panes.Line(p); again != line || e != api.OK {
		t.Errorf("Line of Parse(%q) is %q, %d", line, again, e)
	}
}

func refused(t *testing.T, line string) {
	t.Helper()
	if p, e := panes.Parse(line); p != (api.Pane{}) || e != api.ErrPane {
		t.Errorf("Parse(%q) is %+v, %d", line, p, e)
	}
	parsed(t, line)
}

// The chapter's examples of lines.
func TestLineExamples(t *testing.T) {
	if line, e := panes.Line(late()); line != lateLine || e != api.OK {
		t.Errorf("Line is %q, %d", line, e)
	}
	if p, e := panes.Parse(lateLine); p != late() || e != api.OK {
		t.Errorf("Parse is %+v, %d", p, e)
	}
	p := late()
	p.Key = "\x22\x0a\xc8"
	if line, e := panes.Line(p); line != `"\x22\x0a\xc8" late 0 10 2 3 6 -2 7` || e != api.OK {
		t.Errorf("Line is %q, %d", line, e)
	}
	for _, line := range []string{`"a" late 0 10 2 3 6 -2 07`, `"a" late 0 10 2 3 6 -2`, lateLine + " ", `"\x61" late 0 10 2 3 6 -2 7`} {
		refused(t, line)
	}
}

// P18.2: keys of any bytes, empty, at the bound and one past it.
func TestKeysOfLines(t *testing.T) {
	for _, key := range []string{"", "a", " ", "~", "!", "a b", `"`, `\`, `\x61`, "\n", "\xc8", "é\u2028", strings.Repeat("k", 255), strings.Repeat("k", 256), strings.Repeat("\xff", 256), strings.Repeat("\\", 256)} {
		written(t, pane(key, 1, 2, api.Early, 3, 4, 5, 6, 7))
	}
	all := make([]byte, 256)
	for b := range 256 {
		all[b] = byte(b)
		written(t, of(string([]byte{byte(b)}), 1))
		written(t, of("a"+string([]byte{byte(b)})+"b", 1))
	}
	written(t, of(string(all), 1))
	for _, key := range []string{strings.Repeat("k", 257), strings.Repeat("\x00", 257), strings.Repeat("k", 1<<16), string(all) + "\x00"} {
		written(t, of(key, 1))
		if line, e := panes.Line(of(key, 1)); line != "" || e != api.ErrArg {
			t.Errorf("the line of a key of %d bytes is %q, %d", len(key), line, e)
		}
		refused(t, lineOf(of(key, 1)))
	}
}

// P18.2: the three kinds have lines, and no others.
func TestKindsOfLines(t *testing.T) {
	for kind, name := range kindNames {
		p := late()
		p.Kind = kind
		if line, e := panes.Line(p); line != strings.Replace(lateLine, "late", name, 1) || e != api.OK {
			t.Errorf("Line of the kind %d is %q, %d", kind, line, e)
		}
		written(t, p)
	}
	for _, kind := range []api.PaneKind{0, 4, 5, -1, 256 + 1, math.MinInt, math.MaxInt} {
		p := late()
		p.Kind = kind
		written(t, p)
		if line, e := panes.Line(p); line != "" || e != api.ErrArg {
			t.Errorf("Line of the kind %d is %q, %d", kind, line, e)
		}
	}
	for _, name := range []string{"", "Late", "LATE", "lat", "latex", "late\x00", "on-time", "onTime", "OnTime", "on time", "early late", "1", "2", "3", "\"late\"", "lаte"} {
		refused(t, strings.Replace(lateLine, "late", name, 1))
	}
}

// P18.2: each number, at its bounds and near noughts, in each of its places.
func TestNumbersOfLines(t *testing.T) {
	for _, x := range []int64{least, least + 1, -1 << 62, -11, -10, -9, -1, 0, 1, 9, 10, 11, 99, 100, 1 << 53, 1 << 62, greatest - 1, greatest} {
		for at := range 7 {
			n := []int64{1, 2, 3, 4, 5, 6, 7}
			n[at] = x
			written(t, pane("a", n[0], n[1], api.Late, n[2:]...))
		}
		written(t, pane("", x, x, api.OnTime, x, x, x, x, x))
	}
}

// P18.2: numbers in no other form than the one.
func TestWrongNumbers(t *testing.T) {
	words := []string{"", "-", "+", "00", "01", "007", "-0", "-00", "-01", "+0", "+1", "--1", "-+1", "1-", "1+", "1_0", "0x1", "0b1", "0o7", "1e1", "1.0", "1.", ".1", "a", "a1", "1a", "１", "1\x00", "\x001", "9223372036854775808", "-9223372036854775809", "9223372036854775810", "18446744073709551616", "18446744073709551617", "-18446744073709551615", "92233720368547758070", "09223372036854775807", "-09223372036854775808", "00000000000000000000", strings.Repeat("0", 300) + "1", strings.Repeat("9", 300), "1,0", "∞", "NaN", "\"1\"", "1\r", "1\t"}
	for _, word := range words {
		for at := range 7 {
			parts := strings.Split("0 10 2 3 6 -2 7", " ")
			parts[at] = word
			refused(t, `"a" late `+strings.Join(parts, " "))
		}
	}
	for n := range 7 {
		refused(t, `"a" late`+strings.Repeat(" 1", n))
		refused(t, `"a" late `+strings.Repeat("1 ", n))
	}
	for n := 8; n < 12; n++ {
		refused(t, `"a" late`+strings.Repeat(" 1", n))
	}
}

// P18.2: blanks stand where they must, one each, and nowhere else; no other sign does for one.
func TestWrongBlanks(t *testing.T) {
	parts := strings.Split(lateLine, " ")
	for at := 1; at < len(parts); at++ {
		ahead, behind := strings.Join(parts[:at], " "), strings.Join(parts[at:], " ")
		for _, between := range []string{"", "  ", "\t", "\n", "\r", "\v", "\x00", "\u00a0", "_", ",", " \t", "\t "} {
			refused(t, ahead+between+behind)
		}
	}
	for _, sign := range []string{" ", "  ", "\t", "\n", "\r", "\r\n", "\x00", "\u00a0", "\ufeff", "x", "0", "\""} {
		refused(t, sign+lateLine)
		if sign != "0" {
			refused(t, lateLine+sign)
		}
	}
	parsed(t, lateLine+"0")
	refused(t, lateLine+"\n"+lateLine)
	refused(t, lateLine+" "+lateLine)
}

// P18.2: each byte of a key in its one form.
func TestWrongKeys(t *testing.T) {
	const rest = " late 0 10 2 3 6 -2 7"
	for b := range 256 {
		one := string([]byte{byte(b)})
		small, big := fmt.Sprintf(`\x%02x`, b), fmt.Sprintf(`\x%02X`, b)
		for _, key := range []string{one, small, big, small[:3], "a" + small + "b", small + small, `\u00` + small[2:], `\X` + small[2:], `\` + one, `\x` + one + "1", `\x1` + one} {
			parsed(t, `"`+key+`"`+rest)
		}
		itself := b >= 32 && b <= 126 && b != 34 && b != 92
		if _, e := panes.Parse(`"` + one + `"` + rest); (e == api.OK) != itself {
			t.Errorf("the byte %d as itself: %d", b, e)
		}
		if _, e := panes.Parse(`"` + small + `"` + rest); (e == api.OK) == itself {
			t.Errorf("the byte %d by its digits: %d", b, e)
		}
	}
	for _, key := range []string{"", "a", "'a'", "`a`", `a"`, `"a`, `"`, `""a"`, `"a""`, `"a"b"`, `"a\"`, `"a\"b"`, `"\"`, `"\x"`, `"\x1"`, `"\x1g"`, `"\xg1"`, `"\x0A"`, `"\xC8"`, `"\xc"8"`, `"\n"`, `"\\"`, `"\012"`, `"\u000a"`, `"\x00`, `"\x0`, `"\x`, `"\`, "“a”"} {
		refused(t, key+rest)
		refused(t, key)
	}
	for end := range len(lateLine) {
		refused(t, lateLine[:end])
		refused(t, lateLine[end+1:])
	}
	if p, e := panes.Parse(`""` + rest); p.Key != "" || p.End != 10 || e != api.OK {
		t.Errorf("the empty key: %+v, %d", p, e)
	}
}

// P18.2: long lines end, whatever they are made of.
func TestLongLines(t *testing.T) {
	const n = 1 << 20
	for _, line := range []string{strings.Repeat(" ", n), `"` + strings.Repeat("a", n), `"` + strings.Repeat("a", n) + `" late 0 10 2 3 6 -2 7`, `"a" ` + strings.Repeat("late", n), lateLine + strings.Repeat("0", n), lateLine + strings.Repeat(" 0", n), `"a" late ` + strings.Repeat("0", n), strings.Repeat(`\x00`, n), `"` + strings.Repeat(`\x00`, n) + `"`} {
		if p, e := panes.Parse(line); p != (api.Pane{}) || e != api.ErrPane {
			t.Errorf("a long line is %+v, %d", p, e)
		}
	}
}

// P18.2: drawn panes have their lines, drawn lines their panes.
func TestDrawnLines(t *testing.T) {
	for seed := range int64(200) {
		d := newDrawer(rand.New(rand.NewSource(seed)))
		for range 20 {
			p := d.pane()
			written(t, p)
			line := lineOf(p)
			for range 10 {
				parsed(t, d.spoilt(line))
				parsed(t, d.spoilt(d.spoilt(line)))
			}
		}
	}
}

// P18.3: what is no list of panes has no text; no panes have the empty one.
func TestText(t *testing.T) {
	p, q := late(), of("b", 0)
	for _, l := range [][]api.Pane{nil, {}, {p}, {p, q}, {q, p}, {p, p, p}} {
		if text, e := panes.Text(l...); text != textOf(l) || e != api.OK {
			t.Errorf("Text(%v) is %q, %d", l, text, e)
		}
	}
	if text, e := panes.Text(); text != "" || e != api.OK {
		t.Errorf("Text() is %q, %d", text, e)
	}
	for _, wrong := range []api.Pane{{}, of(strings.Repeat("k", 257), 0), {Key: "a", Kind: 4}, {Kind: -1}} {
		for at := range 4 {
			l := slices.Insert([]api.Pane{p, q, p}, at, wrong)
			if text, e := panes.Text(l...); text != "" || e != api.ErrArg {
				t.Errorf("Text(%v) is %q, %d", l, text, e)
			}
		}
	}
}

// gone holds what a text tells against the chapter, both ways.
func gone(t *testing.T, text string) {
	t.Helper()
	list, n, e := panes.Read(text)
	want, many, is := panesOf(text)
	if !is {
		if list != nil || n != many || e != api.ErrPane {
			t.Errorf("Read(%q) is %v, %d, %d; want %d", text, list, n, e, many)
		}
		return
	}
	if !slices.Equal(list, want) || n != many || e != api.OK || len(list) == 0 && list != nil {
		t.Errorf("Read(%q) is %v, %d, %d; want %v", text, list, n, e, want)
	}
	if again, e := panes.Text(list...); again != text || e != api.OK {
		t.Errorf("Text of Read(%q) is %q, %d", text, again, e)
	}
}

// P18.3: the first line that is none is told, wherever it stands.
func TestRead(t *testing.T) {
	p, q := late(), of("b", 0)
	text := textOf([]api.Pane{p, q})
	for _, x := range []struct {
		text string
		list []api.Pane
		n    int
		e    api.Errno
	}{
		{"", nil, 0, api.OK},
		{text, []api.Pane{p, q}, 2, api.OK},
		{lateLine + "\n", []api.Pane{p}, 1, api.OK},
		{lateLine, nil, 0, api.ErrPane},
		{text[:len(text)-1], nil, 1, api.ErrPane},
		{text + lateLine, nil, 2, api.ErrPane},
		{lateLine + "\nx\n", nil, 1, api.ErrPane},
		{lateLine + "\nx", nil, 1, api.ErrPane},
		{"x\nx\n" + lateLine, nil, 0, api.ErrPane},
		{"\n", nil, 0, api.ErrPane},
		{"\n" + text, nil, 0, api.ErrPane},
		{text + "\n", nil, 2, api.ErrPane},
		{text + "\n" + text, nil, 2, api.ErrPane},
		{lateLine + "\n\n" + lateLine + "\n", nil, 1, api.ErrPane},
		{lateLine + "\r\n", nil, 0, api.ErrPane},
		{lateLine + "\n ", nil, 1, api.ErrPane},
		{text + "x\n" + text, nil, 2, api.ErrPane},
		{text + text + "\"a\" late 0 10 2 3 6 -2\n" + text + "x", nil, 4, api.ErrPane},
		{textOf([]api.Pane{p, of(strings.Repeat("k", 257), 0), q}), nil, 1, api.ErrPane},
		{text + "\x00", nil, 2, api.ErrPane},
		// A byte 10 never stands in a line, so one in a key cuts it in two.
		{"\"a\nb\" late 0 10 2 3 6 -2 7\n", nil, 0, api.ErrPane},
		{text + "\"a\nb\" late 0 10 2 3 6 -2 7\n", nil, 2, api.ErrPane},
	} {
		list, n, e := panes.Read(x.text)
		if !slices.Equal(list, x.list) || n != x.n || e != x.e || len(list) == 0 && list != nil {
			t.Errorf("Read(%q) is %v, %d, %d", x.text, list, n, e)
		}
		gone(t, x.text)
	}
}

// P18.3: of a long text, each line.
func TestReadMany(t *testing.T) {
	const n = 5000
	text := strings.Repeat(lateLine+"\n", n)
	if list, many, e := panes.Read(text); len(list) != n || many != n || e != api.OK {
		t.Errorf("Read of %d lines is %d panes, %d, %d", n, len(list), many, e)
	}
	if list, many, e := panes.Read(text + "x\n" + text); list != nil || many != n || e != api.ErrPane {
		t.Errorf("Read of a wrong line behind %d is %d panes, %d, %d", n, len(list), many, e)
	}
	if list, many, e := panes.Read(strings.Repeat("\n", n)); list != nil || many != 0 || e != api.ErrPane {
		t.Errorf("Read of empty lines is %v, %d, %d", list, many, e)
	}
}

// P18.3, P18.6: drawn lists have their texts, drawn texts their panes.
func TestDrawnTexts(t *testing.T) {
	for seed := range int64(300) {
		d := newDrawer(rand.New(rand.NewSource(seed)))
		list := d.list(d.Intn(8))
		text, e := panes.Text(list...)
		if text != textOf(list) || e != api.OK {
			t.Errorf("Text(%v) is %q, %d", list, text, e)
		}
		if again, n, e := panes.Read(text); !slices.Equal(again, list) || n != len(list) || e != api.OK {
			t.Errorf("Read(%q) is %v, %d, %d", text, again, n, e)
		}
		for range 20 {
			gone(t, d.spoilt(text))
		}
	}
}

// P18.2, P18.3, P18.6: any text, as a line and as lines.
func FuzzRead(f *testing.F) {
	for _, text := range []string{"", lateLine, lateLine + "\n", "\"\\x0a\" early -1 0 1 2 3 4 5\n\"\" ontime 0 0 0 0 0 0 0\n", "\n", "x\n"} {
		f.Add(text)
	}
	f.Fuzz(func(t *testing.T, text string) {
		parsed(t, text)
		gone(t, text)
	})
}
