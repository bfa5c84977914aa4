package store

import (
	"math/rand"
	"testing"
)

// upright tells whether each node of a tree counts what stands below it, and leans no further than it may.
func upright[K, V any](n *node[K, V]) bool {
	if n == nil {
		return true
	}
	a, b := n.sides[ahead], n.sides[behind]
	counts := n.count == a.size()+1+b.size()
	leans := a.weight() > lean*b.weight() || b.weight() > lean*a.weight()
	return counts && !leans && upright(a) && upright(b)
}

// Whatever is put and taken, each node stands upright: so no way down is much longer than another.
func TestUpright(t *testing.T) {
	r := rand.New(rand.NewSource(5))
	for _, bound := range []int{4, 10, 30, 100, 400} {
		for range 20 {
			m := Of[int, int]()
			puts := 1 + r.Intn(9)
			for step := range 300 {
				if r.Intn(10) < puts {
					m.Put(r.Intn(bound), step)
				} else {
					m.Take(r.Intn(bound))
				}
				if !upright(m.root) {
					t.Fatalf("keys below %d, step %d: the tree leans, or counts wrong", bound, step)
				}
			}
		}
	}
}

// Keys that come in order, and then go from one end.
func TestUprightInOrder(t *testing.T) {
	for _, first := range []bool{true, false} {
		m := Of[int, int]()
		for i := range 500 {
			m.Put(i, i)
			if !upright(m.root) {
				t.Fatalf("the tree leans behind Put(%d)", i)
			}
		}
		for i := range 500 {
			k := i
			if !first {
				k = 499 - i
			}
			m.Take(k)
			if !upright(m.root) {
				t.Fatalf("the tree leans behind Take(%d)", k)
			}
		}
	}
}
