package state_test

import (
	"testing"

	"haulage/api"
	"haulage/state"
)

// P17.1: the row of Size and Bytes.
func TestExampleNew(t *testing.T) {
	s := made(t, 0, 1, 2)
	wantNum(t, "Size", s.Size(), 25)
	wantBytes(t, "Bytes", s.Bytes(), []byte{0, 1, 2, 1, 0, 0, 0, 0, 0, 1, 0, 0, 0, 0, 0, 4, 2, 0, 0, 0, 4, 2, 0, 0, 0})
}

// exampleState is the state of the chapter's examples, behind their write.
func exampleState(t *testing.T) *state.State {
	t.Helper()
	s := made(t, 0, 1, 2)
	wantApply(t, s, write(1, 3, 1, put("a", "1")), yes("", "", 0, 1))
	return s
}

// P17.2, P17.4: the row of a Write and of Peek.
func TestExampleWrite(t *testing.T) {
	s := exampleState(t)
	wantPeek(t, s, 1, 3, 1, get("a"), yes("", "", 0, 1), false)
}

// P17.2: the rows of what is refused.
func TestExampleRefused(t *testing.T) {
	s := exampleState(t)
	wantRefused(t, s, write(1, 3, 1, put("a", "1")), api.ErrShardOld)
	wantRefused(t, s, write(2, 3, 1, put("a", "1")), api.ErrStateShard)
	wantRefused(t, s, write(1, 3, 2, get("a")), api.ErrTabOp)
	wantRefused(t, s, offer(1, 0), api.ErrLedgerPeer)
	wantRefused(t, s, offer(1, 1), api.ErrLedgerPeer)
	wantRefused(t, s, plain(api.RecCommit, 1), api.ErrLedgerPhase)
}

// P17.3: the row of After and Size.
func TestExampleAfter(t *testing.T) {
	s := exampleState(t)
	wantAfter(t, s, write(0, 0, 1, put("a", "1")), 49)
	wantNum(t, "Size", s.Size(), 37)
}

// P17.1: the row of what New refuses.
func TestExampleNotNew(t *testing.T) {
	for _, n := range [][3]int{{1, 1, 1}, {0, 9, 1}, {0, 1, 65}} {
		s, err := state.New(n[0], n[1], n[2])
		wantErr(t, "New", err, api.ErrArg)
		wantBool(t, "a state", s != nil, false)
	}
}
