package merkle_test

import (
	"bytes"
	"fmt"
	"math"
	"testing"

	"haulage/api"
	"haulage/merkle"
)

func row(key, value string, rev int) api.Row {
	return api.Row{Key: []byte(key), Value: []byte(value), Rev: rev}
}

// fresh is a tree that New makes.
func fresh(t *testing.T, bits int, rows ...api.Row) *merkle.Tree {
	t.Helper()
	m, err := merkle.New(rows, bits)
	if m == nil || err != api.OK {
		t.Fatalf("New of %d rows with %d bits: a tree: %v, error %d", len(rows), bits, m != nil, err)
	}
	return m
}

// keysIn are the first n keys of a long row of them that are in this bucket, in the order of keys.
func keysIn(bucket, n int) []string {
	var keys []string
	for i := 1000000; len(keys) < n; i++ {
		if key := fmt.Sprint("k", i); toldBucket([]byte(key)) == bucket {
			keys = append(keys, key)
		}
	}
	return keys
}

// rowsIn are n rows of this bucket, in the order of keys.
func rowsIn(bucket, n int) []api.Row {
	var rows []api.Row
	for i, key := range keysIn(bucket, n) {
		rows = append(rows, row(key, fmt.Sprint("v", i), i+1))
	}
	return rows
}

// manyRows are n rows over all buckets, in the order of keys.
func manyRows(n int) []api.Row {
	var rows []api.Row
	for i := range n {
		rows = append(rows, row(fmt.Sprintf("key%05d", i), fmt.Sprint(i*i), i-n/2))
	}
	return rows
}

func wantErr(t *testing.T, what string, got, wanted api.Errno) {
	t.Helper()
	if got != wanted {
		t.Fatalf("%s: error %d, want %d", what, got, wanted)
	}
}

func wantNum(t *testing.T, what string, got, wanted int) {
	t.Helper()
	if got != wanted {
		t.Fatalf("%s: %d, want %d", what, got, wanted)
	}
}

func wantDigest(t *testing.T, what string, got, wanted uint64) {
	t.Helper()
	if got != wanted {
		t.Fatalf("%s: %X, want %X", what, got, wanted)
	}
}

func wantBool(t *testing.T, what string, got, wanted bool) {
	t.Helper()
	if got != wanted {
		t.Fatalf("%s: %v, want %v", what, got, wanted)
	}
}

// alike compares rows; nil and empty lists are the same.
func alike(a, b api.Row) bool {
	return bytes.Equal(a.Key, b.Key) && bytes.Equal(a.Value, b.Value) && a.Rev == b.Rev
}

func wantRow(t *testing.T, what string, got, wanted api.Row) {
	t.Helper()
	if !alike(got, wanted) {
		t.Fatalf("%s: %q %q %d, want %q %q %d", what, got.Key, got.Value, got.Rev, wanted.Key, wanted.Value, wanted.Rev)
	}
}

func wantRows(t *testing.T, what string, got, wanted []api.Row) {
	t.Helper()
	wantNum(t, what+": how many rows", len(got), len(wanted))
	for i := range wanted {
		wantRow(t, fmt.Sprintf("%s: row %d", what, i), got[i], wanted[i])
	}
}

// wantGet asks for a row that is there.
func wantGet(t *testing.T, what string, m *merkle.Tree, wanted api.Row) {
	t.Helper()
	got, ok := m.Get(wanted.Key)
	wantBool(t, fmt.Sprintf("%s: Get(%q)", what, wanted.Key), ok, true)
	wantRow(t, fmt.Sprintf("%s: Get(%q)", what, wanted.Key), got, wanted)
}

// wantNoGet asks for a row that is not there.
func wantNoGet(t *testing.T, what string, m *merkle.Tree, key string) {
	t.Helper()
	got, ok := m.Get([]byte(key))
	wantBool(t, fmt.Sprintf("%s: Get(%q)", what, key), ok, false)
	wantRow(t, fmt.Sprintf("%s: Get(%q)", what, key), got, api.Row{})
}

// wantTree asks for these rows, whatever way they are asked for, and for the digests that the second telling has of them.
func wantTree(t *testing.T, what string, m *merkle.Tree, bits int, rows ...api.Row) {
	t.Helper()
	wantNum(t, what+": Len", m.Len(), len(rows))
	wantRows(t, what+": Rows", m.Rows(), rows)
	for _, r := range rows {
		wantGet(t, what, m, r)
	}
	digests := tell(bits, rows...).digests()
	for node, d := range digests {
		wantDigest(t, fmt.Sprintf("%s: Digest(%d)", what, node), m.Digest(node), d)
	}
	wantDigest(t, what+": Root", m.Root(), digests[1])
}

func wantProof(t *testing.T, what string, got, wanted merkle.Proof) {
	t.Helper()
	wantRows(t, what, got.Rows, wanted.Rows)
	for i := range wanted.Path {
		wantDigest(t, fmt.Sprintf("%s: Path %d", what, i), got.Path[i], wanted.Path[i])
	}
}

// wantShown asks Check for a row.
func wantShown(t *testing.T, what string, root uint64, bits int, p merkle.Proof, wanted api.Row) {
	t.Helper()
	got, ok, err := merkle.Check(root, bits, wanted.Key, p)
	wantErr(t, what+": Check", err, api.OK)
	wantBool(t, what+": Check", ok, true)
	wantRow(t, what+": Check", got, wanted)
}

// wantShownNone asks Check to say that there is no such row.
func wantShownNone(t *testing.T, what string, root uint64, bits int, key string, p merkle.Proof) {
	t.Helper()
	got, ok, err := merkle.Check(root, bits, []byte(key), p)
	wantErr(t, what+": Check", err, api.OK)
	wantBool(t, what+": Check", ok, false)
	wantRow(t, what+": Check", got, api.Row{})
}

// wantRefused asks Check for an error, and for nothing beside it.
func wantRefused(t *testing.T, what string, root uint64, bits int, key string, p merkle.Proof, wanted api.Errno) {
	t.Helper()
	got, ok, err := merkle.Check(root, bits, []byte(key), p)
	wantErr(t, what+": Check", err, wanted)
	wantBool(t, what+": Check", ok, false)
	wantRow(t, what+": Check", got, api.Row{})
}

func wantLines(t *testing.T, what string, got, wanted []api.Line) {
	t.Helper()
	wantNum(t, what+": how many lines", len(got), len(wanted))
	for i, w := range wanted {
		if !bytes.Equal(got[i].Key, w.Key) || got[i].Ours != w.Ours || got[i].Hers != w.Hers {
			t.Fatalf("%s: line %d: %q %X %X, want %q %X %X", what, i, got[i].Key, got[i].Ours, got[i].Hers, w.Key, w.Ours, w.Hers)
		}
	}
}

// wantDiff asks for these lines, and for so many pairs.
func wantDiff(t *testing.T, what string, a, b *merkle.Tree, pairs int, lines ...api.Line) {
	t.Helper()
	got, n, err := merkle.Diff(a, b)
	wantErr(t, what+": Diff", err, api.OK)
	wantNum(t, what+": pairs", n, pairs)
	wantLines(t, what, got, lines)
}

// wantNoDiff asks for an error, and for nothing beside it.
func wantNoDiff(t *testing.T, what string, a, b *merkle.Tree, wanted api.Errno) {
	t.Helper()
	lines, n, err := merkle.Diff(a, b)
	wantErr(t, what+": Diff", err, wanted)
	wantNum(t, what+": pairs", n, 0)
	wantNum(t, what+": how many lines", len(lines), 0)
}

// wrongBits are those that no tree has.
func wrongBits() []int {
	return []int{math.MinInt, -64, -8, -1, 0, 65, 66, 128, 256, 1 << 32, 1<<32 + 8, math.MaxInt}
}

// someBits are those at whose edges a digest might be cut wrongly.
func someBits() []int { return []int{1, 2, 3, 7, 8, 9, 31, 32, 33, 63, 64} }
