package tree

import (
	"cmp"
	"math/rand"
	"testing"
)

// longest is how many nodes the longest way down has, counted node by node; on the way it holds what each node says of itself against what is under it.
func longest[K cmp.Ordered, V any](t *testing.T, n *node[K, V]) (depth, size int) {
	t.Helper()
	if n == nil {
		return 0, 0
	}
	low, lows := longest(t, n.below)
	high, highs := longest(t, n.above)
	depth, size = max(low, high)+1, lows+highs+1
	if n.depth != depth || n.size != size {
		t.Fatalf("a node of depth %d and size %d says %d and %d", depth, size, n.depth, n.size)
	}
	if low > high+1 || high > low+1 {
		t.Fatalf("a node over depths %d and %d", low, high)
	}
	if n.below != nil && cmp.Compare(n.below.key, n.key) >= 0 || n.above != nil && cmp.Compare(n.above.key, n.key) <= 0 {
		t.Fatalf("keys %v, %v, %v", n.below, n.key, n.above)
	}
	return depth, size
}

func wantShape[K cmp.Ordered, V any](t *testing.T, trees ...*Tree[K, V]) {
	t.Helper()
	for _, a := range trees {
		depth, size := longest(t, a.root())
		if a.Depth() != depth || a.Len() != size {
			t.Fatalf("Depth %d, Len %d, want %d, %d", a.Depth(), a.Len(), depth, size)
		}
	}
}

// P5.7: Depth is how many nodes the longest way has, and lesser keys stand below, greater ones above, whatever the tree was made by.
func TestShape(t *testing.T) {
	dice := rand.New(rand.NewSource(3))
	var a, up, down *Tree[int, int]
	for i := range 3000 {
		k := dice.Intn(400)
		switch dice.Intn(4) {
		case 0:
			a, _ = a.Delete(k)
		case 1:
			low, high := a.Split(k)
			wantShape(t, low, high)
			a, _ = Join(low, high)
		default:
			a = a.Put(k, i)
		}
		wantShape(t, a)
	}
	for i := range 300 {
		up, down = up.Put(i, i), down.Put(-i, i)
		wantShape(t, up, down)
	}
}

// P5.6: what shares nodes costs little: Put on a tree of many entries makes new nodes on one way alone.
func TestPutSharesNodes(t *testing.T) {
	var a *Tree[int, int]
	for i := range 4096 {
		a = a.Put(i, i)
	}
	old := map[*node[int, int]]int{}
	for n := range walk(lay(nil, a.root(), false), false) {
		old[n] = 1
	}
	for i := 0; i < 4096; i += 13 {
		fresh := 0
		for n := range walk(lay(nil, a.Put(i, 0).root(), false), false) {
			fresh += 1 - old[n]
		}
		if fresh > a.Depth() {
			t.Fatalf("Put of %d: %d new nodes", i, fresh)
		}
	}
}

// shapes are all evened trees of a depth, with keys that rise by one from first on.
func shapes(depth, first int) []*node[int, int] {
	if depth < 0 {
		return nil
	}
	if depth == 0 {
		return []*node[int, int]{nil}
	}
	var all []*node[int, int]
	for _, sides := range [][2]int{{1, 1}, {1, 2}, {2, 1}} {
		for _, low := range shapes(depth-sides[0], first) {
			mid := &node[int, int]{key: first + low.count()}
			for _, high := range shapes(depth-sides[1], mid.key+1) {
				all = append(all, over(low, mid, high))
			}
		}
	}
	return all
}

// P5.7: any two trees and an entry between them make an even one, of at most one more than the depth of the deeper.
func TestJoinOfShapes(t *testing.T) {
	for a := range 5 {
		for _, low := range shapes(a, 0) {
			mid := &node[int, int]{key: low.count()}
			for b := range min(5, 8-a) {
				for _, high := range shapes(b, mid.key+1) {
					wantEven(t, join(low, mid, high), low, high)
					if max(a, b)-min(a, b) <= 2 {
						wantEven(t, even(low, mid, high), low, high)
					}
				}
			}
		}
	}
}

func wantEven(t *testing.T, made, low, high *node[int, int]) {
	t.Helper()
	depth, size := longest(t, made)
	deeper := max(low.deep(), high.deep())
	if depth < deeper || depth > deeper+1 || size != low.count()+1+high.count() {
		t.Fatalf("depth %d, size %d", depth, size)
	}
	place := 0
	for n := range walk(lay(nil, made, false), false) {
		if n.key != place {
			t.Fatalf("key %d at the place %d", n.key, place)
		}
		place++
	}
}
