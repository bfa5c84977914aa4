package config_test

import (
	"fmt"
	"math/rand"
	"strings"
	"testing"

	"keepsake/api"
	"keepsake/config"
)

const exampleText = "groups 4 sources 1 kind tumbling size 10 slide 0 offset 3 gap 0 late 5 early 0 discard no"

func parses(t *testing.T, text string, want api.Config) {
	t.Helper()
	if c, e := config.Parse(text); c != want || e != api.OK {
		t.Errorf("Parse(%.200q) is %+v, %d, want %+v", text, c, e, want)
	}
}

func parsesNone(t *testing.T, text string) {
	t.Helper()
	if c, e := config.Parse(text); c != (api.Config{}) || e != api.ErrText {
		t.Errorf("Parse(%.200q) is %+v, %d", text, c, e)
	}
}

// parsed holds Parse against the model.
func parsed(t *testing.T, text string) {
	t.Helper()
	if want, e := parseOf(text); e == api.OK {
		parses(t, text, want)
	} else {
		parsesNone(t, text)
	}
}

func TestTextExamples(t *testing.T) {
	for _, r := range []struct {
		c    api.Config
		want string
	}{
		{example(), exampleText},
		{sliding(), "groups 7 sources 3 kind sliding size 640 slide 10 offset 9 gap 0 late 300 early 128 discard yes"},
		{session(), "groups 300 sources 64 kind session size 0 slide 0 offset 0 gap 7 late 1 early 2 discard no"},
		{api.Config{Groups: 1, Sources: 1, Kind: api.Tumbling, Size: 1}, "groups 1 sources 1 kind tumbling size 1 slide 0 offset 0 gap 0 late 0 early 0 discard no"},
		{api.Config{Groups: 32768, Sources: 64, Kind: api.Sliding, Size: 1 << 40, Slide: 1 << 40, Offset: 1<<40 - 1, Late: 1 << 40, Early: 1<<31 - 1, Discard: true},
			"groups 32768 sources 64 kind sliding size 1099511627776 slide 1099511627776 offset 1099511627775 gap 0 late 1099511627776 early 2147483647 discard yes"},
		{api.Config{Groups: 32768, Sources: 64, Kind: api.Session, Gap: 1 << 40, Late: 1 << 40, Early: 1<<31 - 1, Discard: true},
			"groups 32768 sources 64 kind session size 0 slide 0 offset 0 gap 1099511627776 late 1099511627776 early 2147483647 discard yes"},
	} {
		if text, e := config.Text(r.c); text != r.want || e != api.OK {
			t.Errorf("Text(%+v) is %q, %d", r.c, text, e)
		}
		if textOf(r.c) != r.want {
			t.Errorf("the model says %q of %+v", textOf(r.c), r.c)
		}
		parses(t, r.want, r.c)
	}
	parsesNone(t, exampleText+" ")
	parsesNone(t, strings.Replace(exampleText, "size 10", "size 010", 1))
}

func TestTextOfWrongJobs(t *testing.T) {
	for _, c := range kinds() {
		for f := api.FieldGroups; f <= api.FieldEarly; f++ {
			for _, x := range edges() {
				c := with(c, f, x)
				if mayBeOf(c) {
					continue
				}
				if text, e := config.Text(c); text != "" || e != api.ErrJob {
					t.Errorf("Text(%+v) is %q, %d", c, text, e)
				}
				if within(int64(c.Kind), 1, 3) {
					parsesNone(t, textOf(c))
				}
			}
		}
	}
	if text, e := config.Text(api.Config{}); text != "" || e != api.ErrJob {
		t.Errorf("Text of the zero job is %q, %d", text, e)
	}
}

// A blank more or fewer, another blank, a letter more, at every place.
func TestParseOfBlanks(t *testing.T) {
	for _, c := range kinds() {
		text := textOf(c)
		for i := range len(text) + 1 {
			for _, more := range []string{" ", "  ", "\t", "\n", "\x00", "\u00a0", "x"} {
				parsesNone(t, text[:i]+more+text[i:])
			}
			if i == len(text) {
				continue
			}
			parsesNone(t, text[:i])
			parsesNone(t, text[i+1:])
			parsed(t, text[:i]+text[i+1:]) // a digit fewer may leave a job
			if text[i] == ' ' {
				parsesNone(t, text[:i]+text[i+1:])
				for _, other := range []string{"\t", "\n", "  ", "_", "\u00a0", ",", "="} {
					parsesNone(t, text[:i]+other+text[i+1:])
				}
			}
		}
	}
	for _, text := range []string{"", " ", "groups", "groups 4", "\n" + exampleText, exampleText + "\n", exampleText + "\x00", exampleText + " " + exampleText, exampleText + exampleText, strings.Repeat(" ", 19), strings.Repeat(" ", 20)} {
		parsesNone(t, text)
	}
}

// Each value written in other ways, and as other values.
func TestParseOfValues(t *testing.T) {
	others := []string{
		"", "0", "00", "-0", "+0", "-1", "+1", "1", "01", "1.0", "1e1", "1e0", "0x1", "0b1", "0o1", "1_0", "10_", "_10", "١", "１", "½", "NaN", "Inf", "true", "false",
		"yes", "no", "Yes", "No", "YES", "ye", "yess", "noo", "n", "tumbling", "sliding", "session", "Tumbling", "SESSION", "tumblin", "tumblings", "sessions", "slide", "4", "64", "65", "1099511627776", "1099511627777",
		"2147483647", "2147483648", "4294967296", "4294967297", "4294967300", "9223372036854775807", "9223372036854775808", "18446744073709551615", "18446744073709551616", "18446744073709551617", "18446744073709551620", "18446744073709551626",
		"340282366920938463463374607431768211457", strings.Repeat("9", 500), strings.Repeat("0", 500) + "1", strings.Repeat("1", 1<<16), "x", "a b", "\xff",
	}
	for _, c := range kinds() {
		parts := strings.Split(textOf(c), " ")
		for i := 1; i < len(parts); i += 2 {
			was := parts[i]
			for _, other := range append(others, "0"+was, "+"+was, "-"+was, was+"0", was+".0", was+"e0", "0x"+was, was+"_", strings.ToUpper(was)+"!") {
				parts[i] = other
				parsed(t, strings.Join(parts, " "))
			}
			for _, zeros := range []string{"0", "00", "+", "-"} {
				parts[i] = zeros + was
				parsesNone(t, strings.Join(parts, " "))
			}
			parts[i] = was
		}
	}
}

// Words in another order, written otherwise, left out, twice.
func TestParseOfWords(t *testing.T) {
	parts := strings.Split(exampleText, " ")
	for i := 0; i < len(parts); i += 2 {
		for j := i + 2; j < len(parts); j += 2 {
			swapped := strings.Split(exampleText, " ")
			swapped[i], swapped[i+1], swapped[j], swapped[j+1] = parts[j], parts[j+1], parts[i], parts[i+1]
			parsesNone(t, strings.Join(swapped, " "))
			swapped[i+1], swapped[j+1] = parts[i+1], parts[j+1]
			parsesNone(t, strings.Join(swapped, " "))
		}
		one := parts[i] + " " + parts[i+1]
		for _, other := range []string{strings.ToUpper(one), "x" + one, strings.ToUpper(one[:1]) + one[1:], parts[i] + "s " + parts[i+1], parts[i][1:] + " " + parts[i+1], " " + parts[i+1], parts[i+1] + " " + parts[i], parts[i] + "=" + parts[i+1], one + " " + one} {
			parsesNone(t, strings.Replace(exampleText, one, other, 1))
		}
		parsesNone(t, strings.Replace(exampleText+" ", one+" ", "", 1))
		parsesNone(t, strings.TrimSuffix(strings.Replace(exampleText+" ", one+" ", "", 1), " "))
	}
}

func TestParseOfGreatTexts(t *testing.T) {
	for _, text := range []string{strings.Repeat("groups 4 ", 1<<20), strings.Repeat(" ", 1<<22), strings.Repeat("9", 1<<22), "groups " + strings.Repeat("9", 1<<22), exampleText + strings.Repeat(" ", 1<<22)} {
		parsesNone(t, text)
	}
}

// Jobs at each field's bounds, and past them, as texts.
func TestParseOfWrongJobs(t *testing.T) {
	for _, kind := range []string{"tumbling", "sliding", "session"} {
		for _, size := range []string{"-1", "0", "1", "64", "65", "1099511627776", "1099511627777"} {
			for _, slide := range []string{"-1", "0", "1", "64", "17179869183", "17179869184"} {
				for _, offset := range []string{"-1", "0", "1", "63", "64"} {
					for _, gap := range []string{"-1", "0", "1", "1099511627776", "1099511627777"} {
						parsed(t, fmt.Sprintf("groups 1 sources 1 kind %s size %s slide %s offset %s gap %s late 0 early 0 discard no", kind, size, slide, offset, gap))
					}
				}
			}
		}
	}
}

func TestTextOfAny(t *testing.T) {
	r := rand.New(rand.NewSource(5))
	for range 30000 {
		c := anyJob(r)
		text, e := config.Text(c)
		if may := mayBeOf(c); may && (text != textOf(c) || e != api.OK) || !may && (text != "" || e != api.ErrJob) {
			t.Fatalf("Text(%+v) is %q, %d", c, text, e)
		}
	}
}

// Any texts, most of them nearly a job's.
func TestParseOfAny(t *testing.T) {
	r := rand.New(rand.NewSource(6))
	const letters = " 0123456789aeginostyu-\x00"
	for range 50000 {
		b := []byte(textOf(anyGood(r)))
		for range r.Intn(3) {
			b[r.Intn(len(b))] = letters[r.Intn(len(letters))]
		}
		if r.Intn(4) == 0 {
			i := r.Intn(len(b))
			b = append(b[:i], b[i+1:]...)
		}
		if parsed(t, string(b)); t.Failed() {
			t.FailNow()
		}
	}
}
