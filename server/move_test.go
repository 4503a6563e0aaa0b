package server_test

import (
	"testing"

	"haulage/api"
)

// P22.5: Move and Cancel at servers that know all kinds of things, of shards and servers at the first number, the last one, one below and one above, and far from all: in lockstep with the telling, which asks the haul.
func TestMoveAndCancelEverywhere(t *testing.T) {
	numbers := append(farNumbers(), -1, 0, 1, 2, 3, 4, 5, 6, 7, 8, 62, 63, 64, 65)
	for number := range 3 {
		other := (number + 1) % 3
		row := knownOf(atFirst(0, number, 3), owned(4, number), offered(4, other), committed(4, other), installed(4, other), released(4, other), owned(maxEpoch-1, number))
		s := setupOf(3, len(row))
		image := imageOf(t, s, 1, formOf(t, number, 3, row))
		for _, shard := range numbers {
			p := pairOver(t, s, number, image)
			p.cancel(shard)
			for _, to := range numbers {
				p.move(shard, to)
			}
			p.tick()
			p.cancel(shard)
		}
	}
}

// P22.5: each error of Move and Cancel, with nothing beside it, and what is sent and done without one.
func TestErrorsOfMoveAndCancel(t *testing.T) {
	row := knownOf(owned(3, 1), absent(0), offered(1, 2), committed(1, 2), installed(1, 2), released(1, 2), owned(maxEpoch-1, 1), owned(maxEpoch-2, 1))
	for _, c := range []struct {
		shard, to int
		move      api.Errno
		cancel    api.Errno
	}{
		{0, 0, api.OK, errLedgerPhase},
		{0, 2, api.OK, errLedgerPhase},
		{0, 1, errLedgerPeer, errLedgerPhase},
		{0, 3, errLedgerPeer, errLedgerPhase},
		{0, 8, errRecForm, errLedgerPhase},
		{0, -1, errRecForm, errLedgerPhase},
		{1, 0, errLedgerPhase, errLedgerPhase},
		{2, 0, errLedgerPhase, api.OK},
		{3, 0, errLedgerPhase, errLedgerPhase},
		{4, 0, errLedgerPhase, errLedgerPhase},
		{5, 0, errLedgerPhase, errLedgerPhase},
		{6, 0, errLedgerEpoch, errLedgerPhase},
		{7, 0, api.OK, errLedgerPhase},
		{8, 0, errStateShard, errStateShard},
		{64, 0, errRecForm, errRecForm},
		{-1, 0, errRecForm, errRecForm},
	} {
		p := pairOf(t, 1, 3, row...)
		if said, err := p.move(c.shard, c.to); c.move != api.OK {
			wantNone(t, "Move", said, err, c.move)
		} else {
			epoch := row[c.shard].l.Epoch + 1
			wantSent(t, "Move", said, err, offerOf(t, 1, c.to, c.shard, epoch, emptyCopy()))
			wantLedger(t, "Move", p.o, c.shard, offered(epoch, c.to))
		}
		p = pairOf(t, 1, 3, row...)
		wantErr(t, "Cancel", p.cancel(c.shard), c.cancel)
		if c.cancel == api.OK {
			wantLedger(t, "Cancel", p.o, c.shard, owned(row[c.shard].l.Epoch+1, 1))
		}
	}
}

// P22.5: the log is full, and behind its generation there is no other.
func TestMoveAndCancelWithoutRoom(t *testing.T) {
	s := setupOf(3, 3)
	p := pairOver(t, s, 1, imageOf(t, s, maxTime, formOf(t, 1, 3, knownOf(owned(4, 1), offered(5, 2), owned(4, 1)))))
	for seq := 1; seq <= 23; seq++ {
		p.hear(ask(1, 3, seq, 2, put(keyOf(2, 3, 0), "1")))
	}
	said, err := p.move(0, 2)
	wantNone(t, "Move", said, err, errLogFull)
	wantErr(t, "Cancel", p.cancel(1), errLogFull)
	wantLedger(t, "Move", p.o, 0, owned(4, 1))
	wantLedger(t, "Cancel", p.o, 1, offered(5, 2))
}

// P22.5, P22.3, and DOC.md's example 3: a shard that is offered is not written to; its client says the same request again, and the new owner does it, once. Offered back, its seats come with it.
func TestRequestsWhileItMoves(t *testing.T) {
	s := setupOf(2, 1)
	zero, one := pairOfNew(t, s, 0), pairOfNew(t, s, 1)
	both := []*pair{zero, one}
	put1 := func(to int) api.Mail { return ask(to, 3, 1, 0, put("a", "1")) }
	wantRefused := func(number int, verdict api.Errno, hint int) {
		t.Helper()
		both[number].wantHeard(put1(number), refused(put1(number), verdict, hint))
	}
	offer := offerOf(t, 0, 1, 0, 1, emptyCopy())
	said, err := zero.move(0, 1)
	wantSent(t, "Move", said, err, offer)
	wantRefused(0, errFrozen, 1)
	wantRefused(1, errWrongOwner, 0)
	one.wantHeard(offer, plain(4, 1, 0, 0, 1))
	wantRefused(0, errFrozen, 1)
	wantRefused(1, errFrozen, 0)
	zero.wantHeard(plain(4, 1, 0, 0, 1), plain(5, 0, 1, 0, 1))
	wantRefused(0, errFrozen, 1)
	one.wantHeard(plain(5, 0, 1, 0, 1), plain(6, 1, 0, 0, 1))
	wantRefused(0, errFrozen, 1)
	done := api.Answer{Done: true, At: 1}
	one.wantHeard(put1(1), answered(put1(1), done))
	wantText(t, "Deeds", toldDeeds(one.deeds()), toldDeeds([]api.Deed{{Rev: 1, Client: 3, Seq: 1}}))
	zero.wantHeard(plain(6, 1, 0, 0, 1))
	wantRefused(0, errWrongOwner, 1)
	one.wantHeard(put1(1), answered(put1(1), done))

	said, err = one.move(0, 0)
	back := offerOf(t, 1, 0, 0, 2, one.o.Export(0))
	wantSent(t, "Move back", said, err, back)
	zero.wantHeard(back, plain(4, 0, 1, 0, 2))
	one.wantHeard(plain(4, 0, 1, 0, 2), plain(5, 1, 0, 0, 2))
	zero.wantHeard(plain(5, 1, 0, 0, 2), plain(6, 0, 1, 0, 2))
	zero.wantHeard(put1(0), answered(put1(0), done))
	wantText(t, "Deeds", toldDeeds(append(zero.deeds(), one.deeds()...)), toldDeeds(nil))
	wantRefused(1, errFrozen, 0)
	wantLoads(t, "server 0", zero.o, 1)
	wantLoads(t, "server 1", one.o, 3)
}
