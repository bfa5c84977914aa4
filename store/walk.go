package store

import "iter"

// All goes over all keys.
func (m *Map[K, V]) All() iter.Seq2[K, V] {
	return m.walk(ahead, func(K) bool { return true })
}

// From goes over the keys from one on.
func (m *Map[K, V]) From(key K) iter.Seq2[K, V] {
	return m.walk(ahead, func(k K) bool { return m.compare(key, k) <= 0 })
}

// Back goes over the keys from one on, the other way round.
func (m *Map[K, V]) Back(key K) iter.Seq2[K, V] {
	return m.walk(behind, func(k K) bool { return m.compare(key, k) >= 0 })
}

// walk goes over the keys that are within, beginning at the side that is near. It looks at the map when it is gone over, not when it is made; whatever is put or taken then makes new nodes, which it never comes to.
func (m *Map[K, V]) walk(near int, within func(K) bool) iter.Seq2[K, V] {
	return func(yield func(K, V) bool) {
		if m.isThere() {
			tell(m.root.way(near, within), near, yield)
		}
	}
}

// way are the nodes within on the way to the nearest of them: those that a walk has yet to tell, the next one last. Where a key is within, so are all on its far side.
func (n *node[K, V]) way(near int, within func(K) bool) []*node[K, V] {
	var stack []*node[K, V]
	for n != nil {
		s := 1 - near
		if within(n.key) {
			stack = append(stack, n)
			s = near
		}
		n = n.sides[s]
	}
	return stack
}

// tell yields what stands on the stack, and behind each node what is on its far side.
func tell[K, V any](stack []*node[K, V], near int, yield func(K, V) bool) {
	var below *node[K, V]
walk:
	for {
		switch {
		case below != nil:
			stack = append(stack, below)
			below = below.sides[near]
		case len(stack) == 0:
			break walk
		default:
			n := stack[len(stack)-1]
			stack = stack[:len(stack)-1]
			if !yield(n.key, n.value) {
				break walk
			}
			below = n.sides[1-near]
		}
	}
}
