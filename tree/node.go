package tree

import "cmp"

// node has an entry, and under it the nodes with the keys below and above its own. It never changes once it stands in a tree. The depths of the two sides differ by at most one: that keeps the longest way below one and a half times the binary digits of size.
type node[K cmp.Ordered, V any] struct {
	key          K
	value        V
	below, above *node[K, V]
	size, depth  int
}

// count is how many nodes there are, n and all under it.
func (n *node[K, V]) count() int {
	if n == nil {
		return 0
	}
	return n.size
}

// deep is how many nodes the longest way down from n has, n too.
func (n *node[K, V]) deep() int {
	if n == nil {
		return 0
	}
	return n.depth
}

// side is what stands under n, above its key or below it.
func (n *node[K, V]) side(above bool) *node[K, V] {
	if above {
		return n.above
	}
	return n.below
}

// find is the node with a key equal to k, if there is one.
func (n *node[K, V]) find(k K) *node[K, V] {
	for n != nil {
		c := cmp.Compare(k, n.key)
		if c == 0 {
			return n
		}
		n = n.side(c > 0)
	}
	return nil
}

// rank is how many keys are below k.
func (n *node[K, V]) rank(k K) int {
	ahead := 0
	for n != nil {
		less := cmp.Less(n.key, k)
		if less {
			ahead += n.below.count() + 1
		}
		n = n.side(less)
	}
	return ahead
}

// at is the node at a place, if there is one; a place that there is not leads out under the first node or the last.
func (n *node[K, V]) at(place int) *node[K, V] {
	for n != nil && place != n.below.count() {
		behind := place > n.below.count()
		if behind {
			place -= n.below.count() + 1
		}
		n = n.side(behind)
	}
	return n
}
