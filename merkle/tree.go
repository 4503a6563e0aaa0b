package merkle

import (
	"bytes"
	"slices"

	"haulage/api"
)

// Tree is a tree of digests over rows.
type Tree struct {
	bits    int
	buckets [buckets]bucket
	digests [nodes]uint64 // by the nodes' numbers
}

// New: P10.1.
func New(rows []api.Row, bits int) (*Tree, api.Errno) {
	if !areBits(bits) {
		return nil, api.ErrArg
	}
	if !inOrder(rows) {
		return nil, api.ErrMerkOrder
	}
	t := &Tree{bits: bits}
	for _, row := range rows { // in order over all, and so in each bucket
		b := &t.buckets[bucketOf(row.Key)]
		*b = append(*b, t.leafOf(row))
	}
	for node := nodes - 1; node >= rootNode; node-- {
		t.reckon(node)
	}
	return t, api.OK
}

// leafOf makes a row one of the tree's own.
func (t *Tree) leafOf(row api.Row) leaf {
	return leaf{cloneRow(row), digestOfRow(row, t.bits)}
}

// reckon makes the digest of a node out of its rows, or of the digests under it.
func (t *Tree) reckon(node int) {
	if node >= firstBucket {
		t.digests[node] = digestOfBucket(t.buckets[node-firstBucket], t.bits)
		return
	}
	t.digests[node] = digestOfPair(t.digests[2*node], t.digests[2*node+1], t.bits)
}

// change sets a bucket, and reckons the digests of its way: no other ones hang on it.
func (t *Tree) change(number int, b bucket) {
	t.buckets[number] = b
	for node := firstBucket + number; node >= rootNode; node /= 2 {
		t.reckon(node)
	}
}

// Len: P10.2.
func (t *Tree) Len() int {
	if t == nil {
		return 0
	}
	n := 0
	for _, b := range t.buckets {
		n += len(b)
	}
	return n
}

// Root: P10.2.
func (t *Tree) Root() uint64 { return t.Digest(rootNode) }

// Digest: P10.2.
func (t *Tree) Digest(node int) uint64 {
	if t == nil || node < rootNode || node >= nodes {
		return 0
	}
	return t.digests[node]
}

// Get: P10.3.
func (t *Tree) Get(key []byte) (api.Row, bool) {
	if t == nil {
		return api.Row{}, false
	}
	return t.buckets[bucketOf(key)].get(key)
}

// Put: P10.4.
func (t *Tree) Put(row api.Row) {
	if t == nil {
		return
	}
	number := bucketOf(row.Key)
	t.change(number, t.buckets[number].with(t.leafOf(row)))
}

// Delete: P10.4.
func (t *Tree) Delete(key []byte) bool {
	if t == nil {
		return false
	}
	number := bucketOf(key)
	i, found := t.buckets[number].find(key)
	if found {
		t.change(number, t.buckets[number].without(i))
	}
	return found
}

// Rows: P10.3.
func (t *Tree) Rows() []api.Row {
	if t == nil {
		return nil
	}
	var all []api.Row
	for _, b := range t.buckets {
		all = append(all, b.rows()...)
	}
	slices.SortFunc(all, func(x, y api.Row) int { return bytes.Compare(x.Key, y.Key) })
	return all
}
