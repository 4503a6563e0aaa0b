package haul_test

import (
	"testing"

	"haulage/api"
)

// two are the servers 0 and 1 over new disks, with one shard, whose home is server 0; a client has written to it.
func two(t *testing.T) (zero, one *pair) {
	t.Helper()
	s := setupOf(2, 1)
	zero, one = pairOfNew(t, s, 0), pairOfNew(t, s, 1)
	_, err := zero.do(write(0, 3, 1, put("a", "1")))
	wantErr(t, "a write", err, api.OK)
	return zero, one
}

// theOne is the one message that was said.
func theOne(t *testing.T, what string, said []api.Mail, err api.Errno) api.Mail {
	t.Helper()
	wantErr(t, what, err, api.OK)
	wantNum(t, what+": messages", len(said), 1)
	return said[0]
}

// passOn has a server hear a message, and answers the one that it says because of it.
func passOn(t *testing.T, p *pair, m api.Mail) api.Mail {
	t.Helper()
	said, err := p.hear(m)
	return theOne(t, "Hear of "+short(m), said, err)
}

// given is a transfer from server 0 to server 1 up to MailMine, which is lost.
func given(t *testing.T, zero, one *pair) {
	t.Helper()
	said, err := zero.move(0, 1)
	commit := passOn(t, zero, passOn(t, one, theOne(t, "Move", said, err)))
	passOn(t, one, commit)
	wantLedger(t, "server 0", zero.e, 0, committed(1, 1))
	wantLedger(t, "server 1", one.e, 0, owned(1, 1))
}

// P21.2, P21.3: a shard goes from server to server, and its rows and seats with it; who takes it over goes on writing, who has given it up does not.
func TestTransfer(t *testing.T) {
	zero, one := two(t)
	given(t, zero, one)
	_, err := zero.do(write(0, 3, 2, put("a", "2")))
	wantErr(t, "a write to who has it no more", err, errLedgerPhase)
	_, err = one.do(write(0, 3, 1, put("a", "1")))
	wantErr(t, "the write that was done ahead of it", err, errShardOld)
	a, err := one.do(write(0, 3, 2, put("a", "2")))
	wantErr(t, "a write", err, api.OK)
	if string(a.Value) != "1" || a.At != 2 {
		t.Fatalf("the answer: %v", a)
	}
}

// DOC.md's example 5: an offer is cancelled, and its OFFER comes late: installed, it is forgotten.
func TestCancelledOffer(t *testing.T) {
	zero, one := two(t)
	said, err := zero.move(0, 1)
	offer := theOne(t, "Move", said, err)
	wantErr(t, "Cancel", zero.cancel(0), api.OK)
	wantLedger(t, "Cancel", zero.e, 0, owned(2, 0))
	cancel := passOn(t, zero, passOn(t, one, offer))
	wantLedger(t, "the late OFFER", one.e, 0, installed(1, 0))
	said, err = one.hear(cancel)
	wantSaid(t, "CANCEL", said, err)
	wantLedger(t, "CANCEL", one.e, 0, released(1, 0))
}

// DOC.md's example 6: the power goes behind the record Commit, ahead of COMMIT's sending; the first tick behind the restart says it.
func TestPowerBehindCommit(t *testing.T) {
	zero, one := two(t)
	said, err := zero.move(0, 1)
	have := passOn(t, one, theOne(t, "Move", said, err))
	for range 6 {
		zero.tick()
	}
	passOn(t, zero, have) // nobody gets what it says
	zero.crash(nil, -1, 0)
	wantErr(t, "Open", zero.open(), api.OK)
	wantLedger(t, "behind the restart", zero.e, 0, committed(1, 1))
	said, err = zero.tick()
	wantSaid(t, "the first tick", said, err, plain(api.MailCommit, 0, 1, 0, 1))
}

// DOC.md's example 7: MINE is lost, and the shard is offered back: its OFFER is passed over until COMMIT, said again, was answered.
func TestOfferedBack(t *testing.T) {
	zero, one := two(t)
	given(t, zero, one)
	said, err := one.move(0, 0)
	offer := theOne(t, "Move", said, err)
	said, err = zero.hear(offer)
	wantSaid(t, "OFFER to who is Committed", said, err)
	said, err = zero.tick()
	mine := passOn(t, one, theOne(t, "Tick", said, err))
	wantText(t, "MINE", told([]api.Mail{mine}), told([]api.Mail{plain(api.MailMine, 1, 0, 0, 1)}))
	said, err = zero.hear(mine)
	wantSaid(t, "MINE", said, err)
	have := passOn(t, zero, offer)
	wantLedger(t, "OFFER, said again", zero.e, 0, installed(2, 1))
	passOn(t, zero, passOn(t, one, have))
	wantLedger(t, "at the end", zero.e, 0, owned(2, 0))
}

// P21.9: as many rounds as it may take, but one: server 0 says COMMIT when its wait of 8 is over, a round behind server 1's OFFER, which is passed over; server 1 says it again 8 rounds later.
func TestTwoWholeWaits(t *testing.T) {
	zero, one := two(t)
	given(t, zero, one)
	one.move(0, 0)
	for range 15 {
		zero.tick()
	}
	for range 8 {
		one.tick()
	}
	wantNum(t, "Left at server 0", zero.h.Left(0), 8)
	wantNum(t, "Left at server 1", one.h.Left(0), 7)
	for round := 1; round <= 16; round++ {
		for _, p := range []*pair{zero, one} {
			said, _ := p.tick()
			for len(said) > 0 {
				next, err := []*pair{zero, one}[said[0].To].hear(said[0])
				wantErr(t, "Hear", err, api.OK)
				said = append(said[1:], next...)
			}
		}
		wanted := [2]api.Ledger{committed(1, 1), offered(2, 0)}
		if round >= 8 {
			wanted[0] = released(1, 1)
		}
		if round >= 15 {
			wanted = [2]api.Ledger{owned(2, 0), released(2, 0)}
		}
		wantLedger(t, "server 0", zero.e, 0, wanted[0])
		wantLedger(t, "server 1", one.e, 0, wanted[1])
	}
}

// P21.10: messages with an Epoch below the ledger's, of each kind, in each phase, from each server: not a byte of the disk changes, and nothing is written.
func TestLateMessages(t *testing.T) {
	for _, l := range []api.Ledger{owned(5, 1), offered(5, 2), committed(5, 2), installed(5, 2), released(5, 2)} {
		p := pairOf(t, 1, 3, known{l, copyOf(3)})
		image := p.d.Image()
		writes, syncs := p.d.Counts()
		for epoch := 1; epoch < 5; epoch++ {
			for _, from := range []int{0, 2} {
				p.hear(offerOf(t, from, 1, 0, epoch, copyOf(8)))
				for kind := api.MailHave; kind <= api.MailFull; kind++ {
					p.hear(plain(kind, from, 1, 0, epoch))
				}
			}
		}
		wantLedger(t, "behind late messages", p.e, 0, l)
		wantBytes(t, "the disk behind late messages", p.d.Image(), image)
		now, nowSyncs := p.d.Counts()
		wantNum(t, "writes", now, writes)
		wantNum(t, "syncs", nowSyncs, syncs)
	}
}
