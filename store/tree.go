package store

// The two sides of a node: the keys ahead of its own, and those behind it.
const (
	ahead = iota
	behind
)

// How far a node may lean. With these two numbers, and weights that are one more than sizes, putting one key or taking one away is mended by one turn at each node on the way.
const (
	lean  = 3
	twice = 2
)

// node is a key with all that stands below it in the tree. It is never changed: maps and walks that have seen it go on seeing the same.
type node[K, V any] struct {
	key   K
	value V
	count int
	sides [2]*node[K, V]
}

// sideOf is the side on which a key stands that compares so with a node's.
func sideOf(c int) int {
	if c < 0 {
		return ahead
	}
	return behind
}

// size is how many keys the tree has.
func (n *node[K, V]) size() int {
	if n == nil {
		return 0
	}
	return n.count
}

// weight is what is balanced: a tree without keys weighs something, so that it can be outweighed.
func (n *node[K, V]) weight() int { return n.size() + 1 }

// pair are two trees: one on side s, the other one on the other side.
func pair[K, V any](s int, tree, other *node[K, V]) [2]*node[K, V] {
	var sides [2]*node[K, V]
	sides[s], sides[1-s] = tree, other
	return sides
}

// over is a new node with n's key and value, over these sides.
func (n *node[K, V]) over(sides [2]*node[K, V]) *node[K, V] {
	count := sides[ahead].size() + 1 + sides[behind].size()
	return &node[K, V]{key: n.key, value: n.value, count: count, sides: sides}
}

// balanced is n over these sides, one of which may be a key heavier than it should be.
func (n *node[K, V]) balanced(sides [2]*node[K, V]) *node[K, V] {
	for s, tree := range sides {
		if tree.weight() > lean*sides[1-s].weight() {
			return n.turned(s, tree, sides[1-s])
		}
	}
	return n.over(sides)
}

// turned is n over a tree on side s that is too heavy, and a light one; a key of the heavy one comes to stand on top.
func (n *node[K, V]) turned(s int, heavy, light *node[K, V]) *node[K, V] {
	inner, outer := heavy.sides[1-s], heavy.sides[s]
	if inner.weight() < twice*outer.weight() {
		return heavy.over(pair(s, outer, n.over(pair(s, inner, light))))
	}
	far := heavy.over(pair(s, outer, inner.sides[s]))
	near := n.over(pair(s, inner.sides[1-s], light))
	return inner.over(pair(s, far, near))
}

// with is n with another tree on side s.
func (n *node[K, V]) with(s int, tree *node[K, V]) *node[K, V] {
	return n.balanced(pair(s, tree, n.sides[1-s]))
}

// lay is the tree n with the value at the key, and what was there.
func (m *Map[K, V]) lay(n *node[K, V], key K, value V) (*node[K, V], V, bool) {
	if n == nil {
		var none V
		return &node[K, V]{key: key, value: value, count: 1}, none, false
	}
	c := m.compare(key, n.key)
	if c == 0 {
		return &node[K, V]{key: n.key, value: value, count: n.count, sides: n.sides}, n.value, true
	}
	s := sideOf(c)
	tree, was, had := m.lay(n.sides[s], key, value)
	return n.with(s, tree), was, had
}

// drop is the tree n without the key, and what was there.
func (m *Map[K, V]) drop(n *node[K, V], key K) (*node[K, V], V, bool) {
	if n == nil {
		var none V
		return nil, none, false
	}
	c := m.compare(key, n.key)
	if c == 0 {
		return joined(n.sides), n.value, true
	}
	s := sideOf(c)
	tree, was, had := m.drop(n.sides[s], key)
	if !had {
		return n, was, false
	}
	return n.with(s, tree), was, true
}

// joined is one tree of both sides of a key that is taken away: the heavier one gives the key that takes its place, so that they do not come to lean.
func joined[K, V any](sides [2]*node[K, V]) *node[K, V] {
	s := ahead
	if sides[behind].size() > sides[ahead].size() {
		s = behind
	}
	if sides[s] == nil {
		return nil
	}
	next, rest := sides[s].cut(1 - s)
	return next.over(pair(s, rest, sides[1-s]))
}

// cut is the tree's last node towards side s, and the tree without its key.
func (n *node[K, V]) cut(s int) (*node[K, V], *node[K, V]) {
	if n.sides[s] == nil {
		return n, n.sides[1-s]
	}
	last, rest := n.sides[s].cut(s)
	return last, n.with(s, rest)
}
