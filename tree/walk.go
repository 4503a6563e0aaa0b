package tree

import (
	"cmp"
	"iter"
	"slices"
)

// lay adds to a trail the way from n to its first node, or to its last for a walk down. A trail has the nodes that a walk comes to on its way back, the next one at its end: behind each comes first what is on its far side, then the one ahead of it in the trail.
func lay[K cmp.Ordered, V any](trail []*node[K, V], n *node[K, V], down bool) []*node[K, V] {
	for ; n != nil; n = n.side(down) {
		trail = append(trail, n)
	}
	return trail
}

// trail is the way to the first node whose key is not below k.
func (n *node[K, V]) trail(k K) []*node[K, V] {
	var way []*node[K, V]
	for n != nil {
		less := cmp.Less(n.key, k)
		if !less {
			way = append(way, n)
		}
		n = n.side(less)
	}
	return way
}

// walk gives the nodes of a trail, and those behind each. Each time it is gone through, it has a trail of its own.
func walk[K cmp.Ordered, V any](trail []*node[K, V], down bool) iter.Seq[*node[K, V]] {
	return func(yield func(*node[K, V]) bool) {
		left := slices.Clone(trail)
		for len(left) > 0 {
			n := left[len(left)-1]
			left = lay(left[:len(left)-1], n.side(!down), down)
			if !yield(n) {
				return
			}
		}
	}
}

// entries gives what stands in the nodes of a walk.
func entries[K cmp.Ordered, V any](nodes iter.Seq[*node[K, V]]) iter.Seq2[K, V] {
	return func(yield func(K, V) bool) {
		for n := range nodes {
			if !yield(n.key, n.value) {
				return
			}
		}
	}
}
