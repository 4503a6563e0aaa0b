package merkle

import "haulage/api"

// Proof shows a row, or that there is none.
type Proof struct {
	Rows []api.Row
	Path [8]uint64
}

// Prove: P10.5.
func (t *Tree) Prove(key []byte) Proof {
	if t == nil {
		return Proof{}
	}
	number := bucketOf(key)
	p := Proof{Rows: t.buckets[number].rows()}
	node := firstBucket + number
	for i := range p.Path {
		p.Path[i] = t.digests[node^1]
		node /= 2
	}
	return p
}

// Check: P10.6.
func Check(root uint64, bits int, key []byte, p Proof) (api.Row, bool, api.Errno) {
	if !areBits(bits) {
		return api.Row{}, false, api.ErrArg
	}
	number := bucketOf(key)
	if !inOrder(p.Rows) || !allIn(number, p.Rows) {
		return api.Row{}, false, api.ErrMerkProof
	}
	b := bucketOfRows(p.Rows, bits)
	if climb(firstBucket+number, digestOfBucket(b, bits), p.Path, bits) != root {
		return api.Row{}, false, api.ErrMerkProof
	}
	row, found := b.get(key)
	return row, found, api.OK
}

// allIn says whether all rows are in this bucket.
func allIn(number int, rows []api.Row) bool {
	for _, row := range rows {
		if bucketOf(row.Key) != number {
			return false
		}
	}
	return true
}

// climb goes up from a bucket's node and its digest, and answers the digest to which the path leads.
func climb(node int, digest uint64, path [8]uint64, bits int) uint64 {
	for _, beside := range path {
		if node%2 == 0 {
			digest = digestOfPair(digest, beside, bits)
		} else {
			digest = digestOfPair(beside, digest, bits)
		}
		node /= 2
	}
	return digest
}
