package clock

import (
	"math/rand"
	"strconv"
	"strings"
	"testing"
	"unsafe"
)

// sound tells whether each hold comes ahead of those below it, stands where its place says and is known by its name, and nothing is kept beside them.
func sound(c *Clock) bool {
	p := *c.pile
	for i, h := range p {
		if h.place != i || c.named[h.name] != h || i > 0 && !p.Less((i-1)/2, i) {
			return false
		}
	}
	for _, h := range p[len(p):cap(p)] {
		if h != nil {
			return false
		}
	}
	return len(c.named) == len(p)
}

func TestPileIsSound(t *testing.T) {
	r := rand.New(rand.NewSource(5))
	for range 100 {
		c, _ := New(1)
		for step := range 300 {
			name := strconv.Itoa(r.Intn(40))
			if r.Intn(3) == 0 {
				c.Free(name)
			} else {
				c.Hold(name, int64(r.Intn(20)))
			}
			if !sound(c) {
				t.Fatalf("step %d: %v", step, c.pile.rising())
			}
		}
		if d := c.Copy(); !sound(d) || d.Len() != c.Len() {
			t.Fatalf("the copy: %v", d.pile.rising())
		}
	}
}

// What is refused leaves nothing behind.
func TestRefusedHoldIsNotKept(t *testing.T) {
	c, _ := New(1)
	c.Hold("a", 1<<62+1)
	c.Free("a")
	if len(c.named) != 0 || len(*c.pile) != 0 || !sound(c) {
		t.Errorf("a refused hold is kept: %v", c.named)
	}
}

// A name may be a piece of a long text, which must not be kept for it, however often it holds.
func TestNameIsNotKept(t *testing.T) {
	name := strings.Repeat("name", 50)[4:8]
	c, _ := New(1)
	c.Hold(name, 1)
	c.Hold(name, 2)
	c.Free(name)
	c.Hold(name, 3)
	handed := unsafe.StringData(name)
	for key, h := range c.named {
		if unsafe.StringData(key) == handed || unsafe.StringData(h.name) == handed {
			t.Error("a name that was handed in is kept")
		}
	}
}
