package haul_test

import (
	"fmt"
	"testing"

	"haulage/api"
)

// waited is a pair whose first two shards, with this ledger, have had ten ticks: if something is said of them, five are left of a wait of eight.
func waited(t *testing.T, l api.Ledger) *pair {
	t.Helper()
	p := pairOf(t, 1, 3, knownOf(l, l, owned(9, 1))...)
	for range 10 {
		p.tick()
	}
	if moves(l) {
		wantNum(t, "Left behind ten ticks", p.h.Left(0), 5)
	}
	return p
}

// wantAnew asks that the first shard has begun anew, and the second one has not.
func wantAnew(t *testing.T, what string, p *pair) {
	t.Helper()
	wantNum(t, what+": Left", p.h.Left(0), 1)
	l, _ := p.e.Ledger(1)
	if moves(l) {
		wantNum(t, what+": Left of another shard", p.h.Left(1), 5)
	}
	now, _ := p.e.Ledger(0)
	for tick := 1; tick < 30; tick++ {
		said, err := p.tick()
		wantErr(t, what+": a tick", err, api.OK)
		spoken := len(said) > 0 && said[0].Shard == 0
		if spoken != (moves(now) && (tick == 1 || tick == 3 || tick%8 == 7)) {
			t.Fatalf("%s: tick %d: said is %v", what, tick, spoken)
		}
	}
}

// wantGoesOn asks that no shard has begun anew.
func wantGoesOn(t *testing.T, what string, p *pair, l api.Ledger) {
	t.Helper()
	wanted := 1
	if moves(l) {
		wanted = 5
	}
	wantNum(t, what+": Left", p.h.Left(0), wanted)
	wantNum(t, what+": Left of another shard", p.h.Left(1), wanted)
	for range 30 {
		p.tick()
	}
}

// P21.3: with each record that a message calls for its shard begins anew, and no other one.
func TestRecordsBeginAnew(t *testing.T) {
	for _, c := range allCalls(t) {
		p := waited(t, c.was)
		p.hear(c.m)
		wantLedger(t, fmt.Sprint("record ", c.record), p.e, 0, c.then)
		wantAnew(t, fmt.Sprint("record ", c.record), p)
	}
}

// P21.2: with Move and Cancel, too; a shard that waited in an earlier phase is not kept waiting.
func TestMoveAndCancelBeginAnew(t *testing.T) {
	p := waited(t, offered(5, 2))
	wantErr(t, "Cancel", p.cancel(0), api.OK)
	wantAnew(t, "Cancel", p)

	p = waited(t, owned(5, 1))
	p.move(0, 2)
	wantAnew(t, "Move", p)

	p = waited(t, offered(5, 2))
	p.do(api.Record{Kind: api.RecCancel, Shard: 0})
	wantNum(t, "Left behind a cancel of which the Haul was not told", p.h.Left(0), 5)
	p.move(0, 0)
	wantAnew(t, "Move, the wait being long", p)
}

// P21.2 to P21.4: what is refused, what calls for no record, and what has no room begins nothing anew.
func TestWhatDoesNotBeginAnew(t *testing.T) {
	for _, l := range []api.Ledger{owned(5, 1), offered(5, 2), committed(5, 2), installed(5, 2), released(5, 2)} {
		offer := offerOf(t, 2, 1, 0, 9, copyOf(7))
		other, none := offer, offer
		other.Root++
		none.Copy = none.Copy[1:]
		words := []api.Mail{other, none, offerOf(t, 2, 1, 0, 9, copyOfSize(t, 2000)), offerOf(t, 2, 1, 0, 4, copyOf(7)), offerOf(t, 0, 1, 0, 5, copyOf(7))}
		for kind := api.MailHave; kind <= api.MailFull; kind++ {
			words = append(words, plain(kind, 2, 1, 0, 3), plain(kind, 0, 1, 0, 5), plain(kind, 2, 1, 0, 8), plain(kind, 2, 0, 0, 5), plain(kind, 2, 1, 3, 5))
		}
		for _, m := range words {
			p := waited(t, l)
			p.hear(m)
			wantLedger(t, short(m), p.e, 0, l)
			wantGoesOn(t, short(m), p, l)
		}
		p := waited(t, l)
		p.move(0, 1)
		p.move(0, 3)
		p.move(3, 0)
		p.cancel(3)
		if l.Phase != api.Owned {
			p.move(0, 2)
		}
		if l.Phase != api.Offered {
			p.cancel(0)
		}
		wantGoesOn(t, "what is refused", p, l)
	}
}

// P21.3: what is said again is answered again, and begins nothing anew.
func TestSaidAgainBeginsNothing(t *testing.T) {
	for _, c := range []struct {
		l api.Ledger
		m api.Mail
	}{
		{committed(5, 2), plain(api.MailHave, 2, 1, 0, 5)},
		{installed(5, 2), offerOf(t, 2, 1, 0, 5, copyOf(7))},
		{installed(5, 2), plain(api.MailCommit, 0, 1, 0, 4)},
		{offered(5, 2), plain(api.MailHave, 2, 1, 0, 4)},
	} {
		p := waited(t, c.l)
		for range 3 {
			said, err := p.hear(c.m)
			wantErr(t, short(c.m), err, api.OK)
			wantNum(t, short(c.m), len(said), 1)
		}
		wantGoesOn(t, short(c.m), p, c.l)
	}
}

// P21.1: behind a crash a new Haul begins anew, wherever the shard is.
func TestRestartBeginsAnew(t *testing.T) {
	for _, l := range []api.Ledger{offered(5, 2), committed(5, 2), installed(5, 2)} {
		p := waited(t, l)
		p.crash(nil, -1, 0)
		wantErr(t, "Open", p.open(), api.OK)
		said, err := p.tick()
		wantErr(t, "the first tick", err, api.OK)
		wantNum(t, "the first tick", len(said), 2)
		for shard := range 2 {
			wantNum(t, "Left", p.h.Left(shard), 2)
		}
	}
}
