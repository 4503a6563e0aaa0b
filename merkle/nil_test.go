package merkle_test

import (
	"testing"

	"haulage/api"
	"haulage/merkle"
)

// wantNothing asks a tree that is none for its zeros.
func wantNothing(t *testing.T, m *merkle.Tree) {
	t.Helper()
	wantNum(t, "Len", m.Len(), 0)
	wantDigest(t, "Root", m.Root(), 0)
	for node := -1; node < 514; node++ {
		wantDigest(t, "Digest", m.Digest(node), 0)
	}
	for _, key := range []string{"", "a"} {
		wantNoGet(t, "no tree", m, key)
		wantBool(t, "Delete", m.Delete([]byte(key)), false)
		wantProof(t, "Prove", m.Prove([]byte(key)), merkle.Proof{})
	}
	wantNum(t, "rows", len(m.Rows()), 0)
}

// P10.8: a nil tree.
func TestNil(t *testing.T) {
	var none *merkle.Tree
	wantNothing(t, none)
	none.Put(row("a", "1", 1))
	none.Put(api.Row{})
	wantNothing(t, none)
	wantNoDiff(t, "nil", none, none, api.ErrNil)
}

// P0.1: a Tree that New did not make panics at no call; its digests have no bits.
func TestATreeThatNewDidNotMake(t *testing.T) {
	m := &merkle.Tree{}
	wantNothing(t, m)
	m.Put(row("b", "2", 2))
	m.Put(row("a", "1", 1))
	wantRows(t, "Rows", m.Rows(), []api.Row{row("a", "1", 1), row("b", "2", 2)})
	wantNum(t, "Len", m.Len(), 2)
	wantDigest(t, "Root", m.Root(), 0)
	wantDiff(t, "two of them", m, &merkle.Tree{}, 1)
	wantNoDiff(t, "one of them", m, fresh(t, 64), api.ErrArg)
	m.Prove([]byte("a"))
	wantBool(t, "Delete", m.Delete([]byte("a")), true)
	wantGet(t, "one left", m, row("b", "2", 2))
}
