package groups_test

import (
	"math"
	"math/big"
	"math/rand"
	"strings"
	"testing"

	"keepsake/api"
	"keepsake/groups"
)

// hashOf is the hash as the chapter words it, in whole numbers without a bound.
func hashOf(key string) uint32 {
	h, round := big.NewInt(2166136261), new(big.Int).Lsh(big.NewInt(1), 32)
	for _, c := range []byte(key) {
		h.Xor(h, big.NewInt(int64(c)))
		h.Mul(h, big.NewInt(16777619))
		h.Mod(h, round)
	}
	return uint32(h.Uint64())
}

// noNumbers are numbers that are none of groups, of workers or of one of them, whatever the others are.
func noNumbers() []int {
	return []int{-1, api.MaxGroups + 1, math.MinInt, math.MaxInt, math.MinInt32, math.MaxInt32, 1 << 31, 1 << 32, 1<<32 + 1}
}

// longKey is a key of one byte too many.
func longKey() string { return strings.Repeat("k", api.MaxKey+1) }

// anyText is a text of n bytes of any kind.
func anyText(r *rand.Rand, n int) string {
	b := make([]byte, n)
	r.Read(b)
	return string(b)
}

// manyKeys are keys of all lengths up to MaxKey, bytes of any kind among them.
func manyKeys(r *rand.Rand) []string {
	keys := []string{"", "a", "foobar", "\x00", "\xff", "ä", "日本", "\x80\x80", strings.Repeat("\xff", api.MaxKey)}
	for n := range api.MaxKey + 1 {
		keys = append(keys, anyText(r, n))
	}
	return keys
}

func TestHash(t *testing.T) {
	for key, want := range map[string]uint32{
		"":       2166136261,
		"a":      3826002220,
		"foobar": 3214735720,
	} {
		if h := groups.Hash(key); h != want {
			t.Errorf("Hash(%q) is %d, want %d", key, h, want)
		}
	}
}

func TestHashOfAnyText(t *testing.T) {
	r := rand.New(rand.NewSource(1))
	texts := manyKeys(r)
	for c := range 256 {
		texts = append(texts, string([]byte{byte(c)}), "a"+string([]byte{byte(c)}))
	}
	// A hash has no bound on its text.
	texts = append(texts, longKey(), anyText(r, 10000), strings.Repeat("long ", 50000))
	for _, s := range texts {
		if h := groups.Hash(s); h != hashOf(s) {
			t.Errorf("Hash of %d bytes (%.20q) is %d, want %d", len(s), s, h, hashOf(s))
		}
	}
}

func TestHashOfLongText(t *testing.T) {
	// The hash of a long text goes on from that of its beginning.
	const many = 1 << 24
	s := strings.Repeat("x", many)
	h := groups.Hash(s)
	if more := groups.Hash(s + "y"); more != (h^'y')*16777619 {
		t.Errorf("Hash of %d bytes is %d, of one more %d", many, h, more)
	}
}

func TestGroupExamples(t *testing.T) {
	for _, x := range []struct {
		groups, want int
		e            api.Errno
	}{
		{10, 0, api.OK},
		{1, 0, api.OK},
		{0, 0, api.ErrArg},
		{api.MaxGroups, 3826002220 % api.MaxGroups, api.OK},
		{api.MaxGroups + 1, 0, api.ErrArg},
	} {
		if g, e := groups.Group("a", x.groups); g != x.want || e != x.e {
			t.Errorf("Group(a, %d) is %d, %v, want %d, %v", x.groups, g, e, x.want, x.e)
		}
	}
}

func TestGroup(t *testing.T) {
	r := rand.New(rand.NewSource(2))
	for _, key := range manyKeys(r) {
		for _, n := range []int{1, 2, 3, 7, 10, 255, 256, 1000, 32767, api.MaxGroups, 1 + r.Intn(api.MaxGroups)} {
			want := int(int64(hashOf(key)) % int64(n))
			if g, e := groups.Group(key, n); g != want || e != api.OK {
				t.Errorf("Group(%q, %d) is %d, %v, want %d", key, n, g, e, want)
			}
		}
	}
}

func TestGroupRefuses(t *testing.T) {
	for _, key := range []string{"", "a", longKey()} {
		for _, n := range append(noNumbers(), 0) {
			if g, e := groups.Group(key, n); g != 0 || e != api.ErrArg {
				t.Errorf("Group of %d bytes, %d groups: %d, %v", len(key), n, g, e)
			}
		}
	}
	for _, n := range []int{1, 10, api.MaxGroups} {
		for _, key := range []string{longKey(), strings.Repeat("\x00", 70000)} {
			if g, e := groups.Group(key, n); g != 0 || e != api.ErrLong {
				t.Errorf("Group of %d bytes, %d groups: %d, %v", len(key), n, g, e)
			}
		}
	}
}

// FuzzGroup looks for a key whose hash or group is not what the chapter says.
func FuzzGroup(f *testing.F) {
	f.Add("", 1)
	f.Add("foobar", 10)
	f.Add(longKey(), 0)
	f.Fuzz(func(t *testing.T, key string, n int) {
		h := hashOf(key)
		if groups.Hash(key) != h {
			t.Errorf("Hash(%q) is %d, want %d", key, groups.Hash(key), h)
		}
		want, wrong := 0, api.OK
		switch {
		case n < 1 || n > 32768:
			wrong = api.ErrArg
		case len(key) > 256:
			wrong = api.ErrLong
		default:
			want = int(int64(h) % int64(n))
		}
		if g, e := groups.Group(key, n); g != want || e != wrong {
			t.Errorf("Group(%q, %d) is %d, %v, want %d, %v", key, n, g, e, want, wrong)
		}
	})
}
