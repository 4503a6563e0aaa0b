package merkle_test

import (
	"testing"

	"haulage/api"
	"haulage/merkle"
)

// P10.2, P10.4: the rows of "Examples" that are asked of one tree, one behind the other.
func TestExamplesOfATree(t *testing.T) {
	m := fresh(t, 64)
	wantDigest(t, "the empty tree: Digest(300)", m.Digest(300), 0xAF63BF4C8601BB45)
	wantDigest(t, "the empty tree: Root", m.Root(), 0x69AA0765944A40DA)
	wantNum(t, "the empty tree: Len", m.Len(), 0)

	m.Put(row("a", "1", 1))
	wantNum(t, "the bucket of a", toldBucket([]byte("a")), 140)
	wantRows(t, "the rows of that bucket", m.Prove([]byte("a")).Rows, []api.Row{row("a", "1", 1)})
	wantDigest(t, "Digest(396)", m.Digest(396), 0x251DBB97E392991C)
	wantDigest(t, "Root", m.Root(), 0x46B8B0B9426F83C6)

	wantBool(t, "Delete(a)", m.Delete([]byte("a")), true)
	wantBool(t, "Delete(a)", m.Delete([]byte("a")), false)
	wantDigest(t, "Root", m.Root(), 0x69AA0765944A40DA)
}

// P10.7: the rows of "Examples" about Diff.
func TestExamplesOfDiff(t *testing.T) {
	empty := fresh(t, 64)
	a := fresh(t, 64, row("a", "1", 1))
	b := fresh(t, 64, row("a", "1", 1), row("b", "", 2))
	wantDiff(t, "b more", a, b, 17, api.Line{Key: []byte("b"), Hers: 0x2726FEB51D42B73B})
	wantDiff(t, "the empty tree and itself", empty, empty, 1)
	wantNoDiff(t, "64 and 8 bits", a, fresh(t, 8, row("a", "1", 1)), api.ErrArg)
	wantNoDiff(t, "64 and 8 bits", empty, fresh(t, 8), api.ErrArg)
}

// P10.5, P10.6: the row of "Examples" about proofs.
func TestExamplesOfProofs(t *testing.T) {
	m := fresh(t, 64, row("a", "1", 1))
	a, b := m.Prove([]byte("a")), m.Prove([]byte("b"))
	wantShown(t, "a", m.Root(), 64, a, row("a", "1", 1))
	wantShownNone(t, "b", m.Root(), 64, "b", b)
	wantRefused(t, "a's proof for b", m.Root(), 64, "b", a, api.ErrMerkProof)
}

// P10.1: the row of "Examples" in which there is no tree.
func TestExamplesWithoutATree(t *testing.T) {
	wantNoNew(t, "one key twice", []api.Row{row("a", "1", 1), row("a", "2", 2)}, 64, api.ErrMerkOrder)
	wantNoNew(t, "b, a", []api.Row{row("b", "1", 1), row("a", "2", 2)}, 64, api.ErrMerkOrder)
	wantNoNew(t, "0 bits", nil, 0, api.ErrArg)
	wantNoNew(t, "65 bits", nil, 65, api.ErrArg)
}

func wantNoNew(t *testing.T, what string, rows []api.Row, bits int, wanted api.Errno) {
	t.Helper()
	if m, err := merkle.New(rows, bits); m != nil || err != wanted {
		t.Fatalf("%s: New: a tree: %v, error %d, want %d", what, m != nil, err, wanted)
	}
}
