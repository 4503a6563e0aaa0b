package merkle

import (
	"bytes"
	"slices"

	"haulage/api"
)

// leaf is a row with its digest, which is asked for whenever another row of its bucket changes.
type leaf struct {
	row    api.Row
	digest uint64
}

// bucket has its rows in the order of keys. It is never changed: what is put or goes makes a new one.
type bucket []leaf

// bucketOfRows takes the rows as they are.
func bucketOfRows(rows []api.Row, bits int) bucket {
	b := make(bucket, len(rows))
	for i, row := range rows {
		b[i] = leaf{row, digestOfRow(row, bits)}
	}
	return b
}

// find is the place of the key's row: where it is, or else where it would be.
func (b bucket) find(key []byte) (int, bool) {
	return slices.BinarySearchFunc(b, key, func(l leaf, key []byte) int {
		return bytes.Compare(l.row.Key, key)
	})
}

// get is the key's row, in new memory.
func (b bucket) get(key []byte) (api.Row, bool) {
	i, found := b.find(key)
	if !found {
		return api.Row{}, false
	}
	return cloneRow(b[i].row), true
}

func (b bucket) with(l leaf) bucket {
	i, found := b.find(l.row.Key)
	behind := b[i:]
	if found {
		behind = b[i+1:]
	}
	return slices.Concat(b[:i], bucket{l}, behind)
}

func (b bucket) without(i int) bucket {
	return slices.Concat(b[:i], b[i+1:])
}

// rows are all rows, in new memory.
func (b bucket) rows() []api.Row {
	var all []api.Row
	for _, l := range b {
		all = append(all, cloneRow(l.row))
	}
	return all
}

func cloneRow(row api.Row) api.Row {
	return api.Row{Key: bytes.Clone(row.Key), Value: bytes.Clone(row.Value), Rev: row.Rev}
}

// inOrder says whether each key comes behind the one ahead of it.
func inOrder(rows []api.Row) bool {
	for i := 1; i < len(rows); i++ {
		if bytes.Compare(rows[i-1].Key, rows[i].Key) >= 0 {
			return false
		}
	}
	return true
}
