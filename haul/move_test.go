package haul_test

import (
	"testing"

	"haulage/api"
)

// P21.2: Move and Cancel at servers that know all kinds of things, of shards and servers at the first number, the last one, one below and one above, and far from all: in lockstep with the telling.
func TestMoveAndCancelEverywhere(t *testing.T) {
	numbers := append(farNumbers(), -1, 0, 1, 2, 3, 4, 5, 6, 7, 8, 62, 63, 64, 65)
	for server := range 3 {
		other := (server + 1) % 3
		row := knownOf(atFirst(0, server, 3), owned(4, server), offered(4, other), committed(4, other), installed(4, other), released(4, other), owned(maxEpoch-2, server), owned(maxEpoch-1, server), owned(maxEpoch, server), offered(maxEpoch-1, other))
		for _, shard := range numbers {
			for _, to := range numbers {
				p := pairOf(t, server, 3, row...)
				p.move(shard, to)
				p.cancel(to)
			}
			p := pairOf(t, server, 3, row...)
			p.cancel(shard)
			p.move(shard, other)
		}
	}
}

// P21.2: each error of the engine's Do, and which comes first.
func TestErrorsOfMoveAndCancel(t *testing.T) {
	row := knownOf(owned(3, 1), absent(0), offered(1, 2), committed(1, 2), installed(1, 2), released(1, 2), owned(maxEpoch-1, 1), owned(maxEpoch-2, 1))
	for _, c := range []struct {
		shard, to int
		move      api.Errno
		cancel    api.Errno
	}{
		{0, 0, api.OK, errLedgerPhase},
		{0, 2, api.OK, errLedgerPhase},
		{0, 1, errLedgerPeer, errLedgerPhase},
		{0, 3, errLedgerPeer, errLedgerPhase},
		{0, 7, errLedgerPeer, errLedgerPhase},
		{0, 8, errRecForm, errLedgerPhase},
		{0, -1, errRecForm, errLedgerPhase},
		{1, 0, errLedgerPhase, errLedgerPhase},
		{2, 0, errLedgerPhase, api.OK},
		{3, 0, errLedgerPhase, errLedgerPhase},
		{4, 0, errLedgerPhase, errLedgerPhase},
		{5, 0, errLedgerPhase, errLedgerPhase},
		{6, 0, errLedgerEpoch, errLedgerPhase},
		{6, 1, errLedgerEpoch, errLedgerPhase},
		{7, 0, api.OK, errLedgerPhase},
		{7, 1, errLedgerPeer, errLedgerPhase},
		{8, 0, errStateShard, errStateShard},
		{8, 1, errStateShard, errStateShard},
		{8, 8, errRecForm, errStateShard},
		{63, 0, errStateShard, errStateShard},
		{64, 0, errRecForm, errRecForm},
		{-1, 0, errRecForm, errRecForm},
	} {
		p := pairOf(t, 1, 3, row...)
		if said, err := p.move(c.shard, c.to); c.move != api.OK {
			wantNone(t, "Move", said, err, c.move)
		} else {
			epoch := row[c.shard].l.Epoch + 1
			wantSaid(t, "Move", said, err, offerOf(t, 1, c.to, c.shard, epoch, emptyCopy()))
			wantLedger(t, "Move", p.e, c.shard, offered(epoch, c.to))
		}
		p = pairOf(t, 1, 3, row...)
		wantErr(t, "Cancel", p.cancel(c.shard), c.cancel)
		if c.cancel == api.OK {
			wantLedger(t, "Cancel", p.e, c.shard, owned(row[c.shard].l.Epoch+1, 1))
		}
	}
}

// P21.2: the last shard of as many as there may be to the last server, and from it; each offer has its own shard's copy and root.
func TestMoveOfEachShard(t *testing.T) {
	row := make([]known, maxShards)
	for i := range row {
		row[i] = known{owned(i+1, 0), copyOf(i % 4)}
	}
	p := pairOf(t, 0, 8, row...)
	for shard := maxShards - 1; shard >= 0; shard-- {
		to := 1 + shard%7
		said, err := p.move(shard, to)
		wantSaid(t, "Move", said, err, offerOf(t, 0, to, shard, shard+2, copyOf(shard%4)))
	}
	last := pairOf(t, 7, 8, knownOf(owned(0, 7))...)
	said, err := last.move(0, 0)
	wantSaid(t, "Move", said, err, offerOf(t, 7, 0, 0, 1, emptyCopy()))
}

// P21.2: an offer has what was written up to then; offered again behind a cancel, what was written meanwhile, too.
func TestMoveBehindWrites(t *testing.T) {
	p := pairOfNew(t, setupOf(1, 1), 0)
	said, err := p.move(0, 0)
	wantNone(t, "Move to itself, the only server", said, err, errLedgerPeer)

	p = pairOf(t, 0, 2, knownOf(owned(0, 0))...)
	p.do(write(0, 3, 1, put("a", "1")))
	said, err = p.move(0, 1)
	first := []byte{5, 1, 1, 1, 97, 1, 49, 1}
	wantSaid(t, "Move", said, err, offerOf(t, 0, 1, 0, 1, p.e.Export(0)))
	_, refused := p.do(write(0, 3, 2, put("a", "2")))
	wantErr(t, "a write of what is offered", refused, errLedgerPhase)
	wantErr(t, "Cancel", p.cancel(0), api.OK)
	p.do(write(0, 3, 2, put("a", "2")))
	again, err := p.move(0, 1)
	wantSaid(t, "Move again", again, err, offerOf(t, 0, 1, 0, 3, p.e.Export(0)))
	if told(said) == told(again) || len(said[0].Copy) < len(first) {
		t.Fatalf("the copies: %v, %v", said[0].Copy, again[0].Copy)
	}
}
