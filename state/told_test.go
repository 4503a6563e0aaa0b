package state_test

import (
	"testing"

	"haulage/api"
	"haulage/shard"
	"haulage/state"
)

// P17.5: all that states of many kinds tell, of shards that are and of such as are not.
func TestToldOfEach(t *testing.T) {
	for what, m := range someStates() {
		wantState(t, what, stateOf(t, m), m)
	}
}

// P17.5: shards that there aren't, near and far.
func TestToldOfNoShard(t *testing.T) {
	for _, shards := range []int{1, 7, maxShards} {
		s := made(t, 0, 1, shards)
		for _, number := range append(farNumbers(), -2, -1, shards, shards+1, maxShards, maxShards+1) {
			l, err := s.Ledger(number)
			wantErr(t, "Ledger", err, api.ErrStateShard)
			wantBool(t, "a ledger beside an error", l != api.Ledger{}, false)
			wantNum(t, "Export", len(s.Export(number)), 0)
			wantMark(t, "Root", s.Root(number), 0)
		}
	}
}

// P17.5: the Root is that of the copy in each phase that has one, and 0 in the others; it goes with the copy wherever that goes.
func TestRoots(t *testing.T) {
	copied := copyOf(9)
	c, _ := shard.Import(copied)
	wantBool(t, "a Root of 0", c.Root() != 0, true)
	for _, l := range []api.Ledger{owned(3, 1), offered(3, 0), committed(3, 0), installed(3, 2)} {
		s := stateOf(t, begun(1, 3, 3).with(1, l, copied))
		wantMark(t, "Root", s.Root(1), c.Root())
		wantBytes(t, "Export", s.Export(1), copied)
	}
	for _, l := range []api.Ledger{absent(0), released(3, 2)} {
		s := stateOf(t, begun(1, 3, 3).with(1, l, copied))
		wantMark(t, "Root", s.Root(1), 0)
		wantNum(t, "Export", len(s.Export(1)), 0)
	}
	wantMark(t, "Root of a new copy", made(t, 0, 1, 1).Root(0), shard.New().Root())
}

// P17.6, P0.1: each call on a nil state.
func TestNil(t *testing.T) {
	var s *state.State
	for _, number := range append(farNumbers(), -1, 0, 1, 63, 64) {
		for kind := -1; kind <= 9; kind++ {
			wantRefused(t, s, plain(kind, number), api.ErrNil)
			wantRefused(t, s, api.Record{Kind: kind, Shard: number, Epoch: 1, Peer: 1, Seq: 1, Op: put("a", "1"), Copy: newCopy()}, api.ErrNil)
		}
		for _, op := range append(oneOfEach("a"), wrongOps()...) {
			wantNoPeek(t, s, number, 0, 1, op, api.ErrNil)
			wantNoPeek(t, s, number, 16, 0, op, api.ErrNil)
		}
		l, err := s.Ledger(number)
		wantErr(t, "Ledger", err, api.ErrNil)
		wantBool(t, "a ledger beside an error", l != api.Ledger{}, false)
		wantNum(t, "Export", len(s.Export(number)), 0)
		wantMark(t, "Root", s.Root(number), 0)
	}
	wantNum(t, "Bytes", len(s.Bytes()), 0)
	wantNum(t, "Size", s.Size(), 0)
	wantNum(t, "Server", s.Server(), 0)
	wantNum(t, "Servers", s.Servers(), 0)
	wantNum(t, "Shards", s.Shards(), 0)
}

// P0.1: a state that neither New nor Read made ends each call without a panic, and has no shards.
func TestStateOfNothing(t *testing.T) {
	s := &state.State{}
	wantRefused(t, s, plain(api.RecOwn, 0), api.ErrStateShard)
	wantNoPeek(t, s, 0, 0, 1, get("a"), api.ErrStateShard)
	wantShard(t, "no shard", s, telling{}, 0)
	wantNum(t, "Shards", s.Shards(), 0)
	wantNum(t, "Size", s.Size(), len(s.Bytes()))
}
