package merkle_test

import (
	"fmt"
	"math"
	"slices"
	"testing"

	"haulage/api"
)

// P10.3: Get of rows that are there, and of keys that are not: near to them, in their bucket, in an empty one.
func TestGet(t *testing.T) {
	rows := []api.Row{row("", "nothing", -1), row("a", "1", 1), row("ab", "", math.MinInt), row("b", "2", math.MaxInt)}
	m := fresh(t, 64, rows...)
	for _, r := range rows {
		wantGet(t, "four rows", m, r)
	}
	for _, key := range []string{"A", "a\x00", "aa", "abc", "ba", "c", "\x00", "\xff", "bb"} {
		wantNoGet(t, "four rows", m, key)
	}
	for _, key := range append(keysIn(140, 5), keysIn(0, 3)...) {
		wantNoGet(t, "four rows", m, key)
	}
	wantNoGet(t, "no rows", fresh(t, 64), "")
	wantNoGet(t, "no rows", fresh(t, 64), "a")
	got, ok := m.Get(nil)
	wantBool(t, "Get(nil)", ok, true)
	wantRow(t, "Get(nil)", got, rows[0])
}

// P10.3: every row of a bucket of many is found, and none that would stand between them.
func TestGetInABucket(t *testing.T) {
	all := rowsIn(33, 21)
	var rows []api.Row
	for i, r := range all {
		if i%2 == 1 {
			rows = append(rows, r)
		}
	}
	m := fresh(t, 1, rows...)
	for i, r := range all {
		if i%2 == 1 {
			wantGet(t, "each second", m, r)
		} else {
			wantNoGet(t, "each second", m, string(r.Key))
		}
	}
}

// P10.3: Rows are in the order of keys, not of buckets, however they came.
func TestRows(t *testing.T) {
	rows := manyRows(500)
	m := fresh(t, 64)
	for i := range rows {
		m.Put(rows[(i*313+77)%500])
	}
	wantRows(t, "Rows", m.Rows(), rows)
	wantRows(t, "Rows", fresh(t, 3, rows...).Rows(), rows)
	wantRows(t, "Rows of none", fresh(t, 64).Rows(), nil)
	edges := []api.Row{row("", "", 0), row("\x00", "", 0), row("a", "", 0), row("aa", "", 0), row("b", "", 0), row("\x80", "", 0), row("\xff", "", 0)}
	m = fresh(t, 64)
	for _, i := range []int{6, 2, 4, 0, 5, 3, 1} {
		m.Put(edges[i])
	}
	wantRows(t, "Rows", m.Rows(), edges)
}

// P10.4: a new key's row is added, wherever in its bucket it stands.
func TestPutNew(t *testing.T) {
	rows := rowsIn(201, 5)
	for i := range rows {
		m := fresh(t, 64, slices.Delete(slices.Clone(rows), i, i+1)...)
		m.Put(rows[i])
		wantTree(t, fmt.Sprint("put at ", i), m, 64, rows...)
	}
	m := fresh(t, 64)
	m.Put(api.Row{})
	wantTree(t, "an empty row", m, 64, api.Row{})
	m.Put(row("\x00", "", -5))
	wantTree(t, "two", m, 64, api.Row{}, row("\x00", "", -5))
}

// P10.4: a row comes in the place of the one with its key, whatever of it is unlike; the revision may fall.
func TestPutInPlace(t *testing.T) {
	rows := rowsIn(9, 4)
	for i := range rows {
		for _, r := range []api.Row{
			{Key: rows[i].Key, Value: []byte("other"), Rev: rows[i].Rev},
			{Key: rows[i].Key, Value: rows[i].Value, Rev: rows[i].Rev - 3},
			{Key: rows[i].Key, Value: rows[i].Value, Rev: math.MaxInt},
			{Key: rows[i].Key},
			rows[i],
		} {
			m := fresh(t, 64, rows...)
			m.Put(r)
			wanted := slices.Clone(rows)
			wanted[i] = r
			wantTree(t, fmt.Sprint("in the place of ", i), m, 64, wanted...)
		}
	}
}

// P10.4: Delete takes the key's row away and no other, and says whether there was one.
func TestDelete(t *testing.T) {
	rows := rowsIn(77, 5)
	for i := range rows {
		m := fresh(t, 64, rows...)
		wantBool(t, "Delete", m.Delete(rows[i].Key), true)
		left := slices.Delete(slices.Clone(rows), i, i+1)
		wantTree(t, fmt.Sprint("without ", i), m, 64, left...)
		wantNoGet(t, fmt.Sprint("without ", i), m, string(rows[i].Key))
		wantBool(t, "Delete again", m.Delete(rows[i].Key), false)
		wantTree(t, fmt.Sprint("without ", i), m, 64, left...)
	}
	m := fresh(t, 64, rows...)
	for _, key := range append(keysIn(77, 9)[5:], "", "a", "zz") {
		wantBool(t, fmt.Sprintf("Delete(%q)", key), m.Delete([]byte(key)), false)
	}
	wantTree(t, "nothing deleted", m, 64, rows...)
	wantBool(t, "Delete of no rows", fresh(t, 64).Delete(nil), false)
}

// P10.4: an empty key is one like others; nil is the same.
func TestEmptyKey(t *testing.T) {
	m := fresh(t, 64, row("", "1", 1), row("a", "2", 2))
	m.Put(api.Row{Value: []byte("3"), Rev: 3})
	wantTree(t, "put", m, 64, row("", "3", 3), row("a", "2", 2))
	wantBool(t, "Delete(nil)", m.Delete(nil), true)
	wantTree(t, "deleted", m, 64, row("a", "2", 2))
	wantBool(t, "Delete(empty)", m.Delete([]byte{}), false)
}

// P10.9: the digests hang on the rows and bits alone: rows that are put in many orders, some of them first with other values, some twice, among others that go again.
func TestTheRowsAlone(t *testing.T) {
	rows := append(manyRows(60), rowsIn(5, 6)...)
	slices.SortFunc(rows, func(a, b api.Row) int { return slices.Compare(a.Key, b.Key) })
	n := len(rows)
	for _, bits := range []int{1, 4, 16, 64} {
		for _, step := range []int{1, 5, 7, n - 1} {
			m := fresh(t, bits)
			for i := range n {
				r := rows[i*step%n]
				m.Put(api.Row{Key: r.Key, Value: []byte("early"), Rev: i})
				m.Put(row(fmt.Sprint("gone", i), "x", i))
			}
			for i := range n {
				m.Put(rows[(i*step+3)%n])
				wantBool(t, "Delete", m.Delete([]byte(fmt.Sprint("gone", n-1-i))), true)
			}
			wantTree(t, fmt.Sprintf("%d bits, step %d", bits, step), m, bits, rows...)
			made := fresh(t, bits, rows...)
			for node := range 512 {
				wantDigest(t, fmt.Sprintf("Digest(%d)", node), m.Digest(node), made.Digest(node))
			}
		}
	}
}

// P10.9: a tree from which all went is an empty one; each way back leads to the digests that were.
func TestThereAndBack(t *testing.T) {
	m := fresh(t, 64)
	rows := manyRows(80)
	var roots []uint64
	for _, r := range rows {
		roots = append(roots, m.Root())
		m.Put(r)
	}
	for i := len(rows) - 1; i >= 0; i-- {
		wantBool(t, "Delete", m.Delete(rows[i].Key), true)
		wantDigest(t, "Root", m.Root(), roots[i])
	}
	wantTree(t, "empty again", m, 64)
}
