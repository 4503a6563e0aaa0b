package engine_test

import (
	"fmt"
	"testing"

	"haulage/api"
	"haulage/engine"
	"haulage/state"
)

// opsOfAllKinds are ops that find a row and that find none, right and wrong.
func opsOfAllKinds() []api.Op {
	return []api.Op{get("a"), get("z"), put("a", "2"), del("a"), swap("a", "2", 1), swap("a", "2", 9), {Kind: api.OpSeek}, {Kind: api.OpSeek, Key: []byte("b")}, {}, {Kind: 9}, get(""), put(text(65, 1), ""), put("a", text(257, 1))}
}

// P18.3: Peek is the state's, in each phase, of each client and seq near the bounds; it changes nothing.
func TestPeek(t *testing.T) {
	p := mixedPair(t)
	before := tale(p.e)
	did := 0
	wantUntouched(t, "Peek", p.d, func() {
		for shard := -1; shard <= 7; shard++ {
			for _, client := range append(farNumbers(), -1, 0, 3, 4, 15, 16) {
				for _, seq := range append(farNumbers(), -1, 0, 1, 2, maxSeq, maxSeq+1) {
					for _, op := range opsOfAllKinds() {
						what := fmt.Sprintf("Peek(%d, %d, %d, %d %q)", shard, client, seq, op.Kind, op.Key)
						wanted, fresh, why := p.m.now.Peek(shard, client, seq, op)
						a, new, err := p.e.Peek(shard, client, seq, op)
						wantErr(t, what, err, why)
						wantBool(t, what+": done now", new, fresh)
						wantAnswer(t, what, a, wanted)
						if new {
							did++
						}
					}
				}
			}
		}
	})
	wantText(t, "behind it", tale(p.e), before)
	wantBool(t, "some would be done", did > 0, true)
}

// P18.3: what Peek says of a write is what Do answers to it.
func TestPeekAndDo(t *testing.T) {
	p := mixedPair(t)
	for seq, op := range []api.Op{put("a", "2"), swap("a", "3", 2), swap("a", "4", 9), del("a"), del("a"), put("b", "")} {
		wanted, did, err := p.e.Peek(0, 3, 2+seq, op)
		wantErr(t, "Peek", err, api.OK)
		wantBool(t, "Peek: done now", did, true)
		wantAnswer(t, "Do", done(t, p.e, write(0, 3, 2+seq, op)), wanted)
		again, did, err := p.e.Peek(0, 3, 2+seq, op)
		wantErr(t, "Peek behind it", err, api.OK)
		wantBool(t, "Peek behind it: done now", did, false)
		wantAnswer(t, "Peek behind it", again, wanted)
	}
}

// wantState asks for all that the state tells, shard by shard, of shards that there aren't too.
func wantState(t *testing.T, what string, e *engine.Engine, now *state.State) {
	t.Helper()
	wantBytes(t, what+": Bytes", e.Bytes(), now.Bytes())
	wantNum(t, what+": Server", e.Server(), now.Server())
	wantNum(t, what+": Servers", e.Servers(), now.Servers())
	wantNum(t, what+": Shards", e.Shards(), now.Shards())
	wantBool(t, what+": Dead", e.Dead(), false)
	for _, shard := range append(farNumbers(), -1, 0, 1, 2, 3, 4, 5, 6, 63, 64) {
		l, err := e.Ledger(shard)
		wanted, why := now.Ledger(shard)
		wantErr(t, what+": Ledger", err, why)
		wantText(t, what+": Ledger", fmt.Sprint(l), fmt.Sprint(wanted))
		wantBytes(t, what+": Export", e.Export(shard), now.Export(shard))
		wantBool(t, what+": Root", e.Root(shard) == now.Root(shard), true)
	}
}

// P18.5: what a live engine tells, with the records in the log, in the snapshot, and opened again; telling changes nothing, and asks nothing of the disk.
func TestToldLive(t *testing.T) {
	p := mixedPair(t)
	p.d.Fuse(0)
	wantUntouched(t, "telling", p.d, func() { wantState(t, "a live one without power", p.e, p.m.now) })
	p.d.Fuse(-1)
	wantState(t, "a live one", p.e, p.m.now)
	wantNum(t, "Used", p.e.Used(), 1+len(mixed())+1) // one of them takes two
	for seq := 2; p.e.Used() <= 12; seq++ {
		wantErr(t, "a write", p.do(t, "filling", puts(seq)), api.OK)
	}
	wantErr(t, "Tidy", p.tidy(t, "filled"), api.OK)
	wantNum(t, "Used", p.e.Used(), 1)
	wantNum(t, "Gen", p.e.Gen(), 2)
	wantState(t, "behind a checkpoint", p.e, p.m.now)
	wantState(t, "opened again", opened(t, "again", p.d, 0, small(3, 6)), p.m.now)
}

// P18.5: of a nil engine lists are empty, numbers zero, and the calls answer ErrNil, whatever they are handed.
func TestNil(t *testing.T) {
	var e *engine.Engine
	for shard := range 4 {
		for _, r := range append(recordsOfAllKinds(shard), unsound(shard)...) {
			a, err := e.Do(r)
			wantErr(t, "Do of a nil engine", err, api.ErrNil)
			wantAnswer(t, "Do of a nil engine", a, api.Answer{})
		}
		for _, op := range opsOfAllKinds() {
			a, did, err := e.Peek(shard, 3, 1, op)
			wantErr(t, "Peek of a nil engine", err, api.ErrNil)
			wantBool(t, "Peek of a nil engine", did, false)
			wantAnswer(t, "Peek of a nil engine", a, api.Answer{})
		}
	}
	wantErr(t, "Tidy of a nil engine", e.Tidy(), api.ErrNil)
	for _, shard := range append(farNumbers(), -1, 0, 1, 64) {
		l, err := e.Ledger(shard)
		wantErr(t, "Ledger of a nil engine", err, api.ErrNil)
		wantText(t, "Ledger of a nil engine", fmt.Sprint(l), fmt.Sprint(api.Ledger{}))
		wantBytes(t, "Export of a nil engine", e.Export(shard), nil)
		wantBool(t, "Root of a nil engine", e.Root(shard) == 0, true)
	}
	wantBytes(t, "Bytes of a nil engine", e.Bytes(), nil)
	wantText(t, "the numbers of a nil engine", fmt.Sprint(e.Server(), e.Servers(), e.Shards(), e.Gen(), e.Used(), e.Dead()), "0 0 0 0 0 false")
}

// P18.5: the ledgers of a new engine, and of one whose shards went and came.
func TestLedgers(t *testing.T) {
	p := mixedPair(t)
	for shard, wanted := range []api.Ledger{{Phase: 1}, {Phase: 2, Epoch: 1, Peer: 2}, {Phase: 4, Epoch: 7, Peer: 1}, {Phase: 0, Peer: 1}, {Phase: 5, Epoch: 2, Peer: 1}, {Phase: 3, Epoch: 1, Peer: 1}} {
		l, err := p.e.Ledger(shard)
		wantErr(t, "Ledger", err, api.OK)
		wantText(t, fmt.Sprint("ledger of shard ", shard), fmt.Sprint(l), fmt.Sprint(wanted))
		wantBool(t, fmt.Sprint("a copy of shard ", shard), len(p.e.Export(shard)) > 0, wanted.Phase >= 1 && wanted.Phase <= 4)
		wantBool(t, fmt.Sprint("a root of shard ", shard), p.e.Root(shard) != 0, wanted.Phase >= 1 && wanted.Phase <= 4)
	}
	for _, shard := range append(farNumbers(), -1, 6, 64) {
		_, err := p.e.Ledger(shard)
		wantErr(t, "Ledger of none", err, api.ErrStateShard)
	}
}
