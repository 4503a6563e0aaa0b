package tree

import "cmp"

// over is a node with the entry of mid over two trees whose depths differ by at most one.
func over[K cmp.Ordered, V any](low, mid, high *node[K, V]) *node[K, V] {
	return &node[K, V]{
		key: mid.key, value: mid.value,
		below: low, above: high,
		size:  low.count() + 1 + high.count(),
		depth: max(low.deep(), high.deep()) + 1,
	}
}

// join makes one tree of two, whatever their depths, and the entry of mid between them. The deeper one is gone down on the side of the other, till they are of like depth; what is put in there makes that side deeper by one at most, so that each node on the way up has to be evened only once.
func join[K cmp.Ordered, V any](low, mid, high *node[K, V]) *node[K, V] {
	switch {
	case low.deep() > high.deep()+1:
		return even(low.below, low, join(low.above, mid, high))
	case high.deep() > low.deep()+1:
		return even(join(low, mid, high.below), high, high.above)
	}
	return over(low, mid, high)
}

// even is over for two trees whose depths may differ by two.
func even[K cmp.Ordered, V any](low, mid, high *node[K, V]) *node[K, V] {
	switch {
	case low.deep() > high.deep()+1:
		return leanLow(low, mid, high)
	case high.deep() > low.deep()+1:
		return leanHigh(low, mid, high)
	}
	return over(low, mid, high)
}

// leanLow is even where low is deeper by two: its top becomes that of all, or, if its inner side is the deeper one, the top of that side, which then is parted in two.
func leanLow[K cmp.Ordered, V any](low, mid, high *node[K, V]) *node[K, V] {
	inner := low.above
	if low.below.deep() >= inner.deep() {
		return over(low.below, low, over(inner, mid, high))
	}
	return over(over(low.below, low, inner.below), inner, over(inner.above, mid, high))
}

// leanHigh is leanLow the other way round.
func leanHigh[K cmp.Ordered, V any](low, mid, high *node[K, V]) *node[K, V] {
	inner := high.below
	if high.above.deep() >= inner.deep() {
		return over(over(low, mid, inner), high, high.above)
	}
	return over(over(low, mid, inner.below), inner, over(inner.above, high, high.above))
}

// meet makes one tree of two, without an entry between them: the last one of low serves as that.
func meet[K cmp.Ordered, V any](low, high *node[K, V]) *node[K, V] {
	if low == nil {
		return high
	}
	rest, last := low.cut()
	return join(rest, last, high)
}

// cut takes the last node out.
func (n *node[K, V]) cut() (rest, last *node[K, V]) {
	if n.above == nil {
		return n.below, n
	}
	rest, last = n.above.cut()
	return join(n.below, n, rest), last
}

// put is the tree with the entry of e, in the place of one with an equal key.
func (n *node[K, V]) put(e *node[K, V]) *node[K, V] {
	if n == nil {
		return over(nil, e, nil)
	}
	switch c := cmp.Compare(e.key, n.key); {
	case c < 0:
		return join(n.below.put(e), n, n.above)
	case c > 0:
		return join(n.below, n, n.above.put(e))
	}
	return over(n.below, e, n.above)
}

// without is the tree but for the entry with a key equal to k, and whether there was one.
func (n *node[K, V]) without(k K) (*node[K, V], bool) {
	if n == nil {
		return nil, false
	}
	c := cmp.Compare(k, n.key)
	if c == 0 {
		return meet(n.below, n.above), true
	}
	part, was := n.side(c > 0).without(k)
	switch {
	case !was:
		return n, false
	case c < 0:
		return join(part, n, n.above), true
	}
	return join(n.below, n, part), true
}

// split parts the nodes with keys below k from the others.
func (n *node[K, V]) split(k K) (low, high *node[K, V]) {
	if n == nil {
		return nil, nil
	}
	if cmp.Less(n.key, k) {
		low, high = n.above.split(k)
		return join(n.below, n, low), high
	}
	low, high = n.below.split(k)
	return low, join(high, n, n.above)
}
