package ledger_test

import (
	"math/rand"
	"slices"
	"testing"

	"haulage/api"
	"haulage/ledger"
)

// mail is a message about the one shard of a run.
type mail struct{ kind, epoch, from, to int }

// run is one as P15.11 has it: all that was ever sent may be heard at any time.
type run struct {
	t       *testing.T
	dice    *rand.Rand
	row     []api.Ledger
	sent    []mail // each but once
	known   map[mail]bool
	records [9]int // how many of each kind were done
	heard   [9]int // how many of each kind were heard
}

func newRun(t *testing.T, first []api.Ledger, dice *rand.Rand) *run {
	return &run{t: t, dice: dice, row: slices.Clone(first), known: map[mail]bool{}}
}

// lateRow is a row of a run in which home was told to offer and to cancel, again and again: the end of epochs is near.
func lateRow(servers, home, epoch int) []api.Ledger {
	all := firstRow(servers, home)
	all[home].Epoch = epoch
	return all
}

func (r *run) send(m mail) {
	if !r.known[m] {
		r.known[m] = true
		r.sent = append(r.sent, m)
	}
}

// step does a record that is right, and asks for what holds at any moment.
func (r *run) step(server int, record api.Record) {
	r.t.Helper()
	was := r.row[server]
	now, err := ledger.Step(server, was, record)
	if err != api.OK {
		r.t.Fatalf("server %d at %v refuses kind %d, epoch %d, peer %d: error %d", server, was, record.Kind, record.Epoch, record.Peer, err)
	}
	r.records[record.Kind]++
	r.row[server] = now
	if now.Epoch < was.Epoch {
		r.t.Fatalf("server %d: the epoch goes back from %v to %v", server, was, now)
	}
	if !ledger.Sound(r.row) || !toldSound(r.row) {
		r.t.Fatalf("server %d goes from %v to %v: %v is not sound", server, was, now, r.row)
	}
}

// hear answers what is sent back, if anything is. A full server has no room for a copy.
func (r *run) hear(m mail, full bool) (mail, bool) {
	r.t.Helper()
	r.heard[m.kind]++
	record, reply := ledger.Hear(m.to, r.row[m.to], m.kind, m.epoch, m.from)
	if record == api.RecInstall && full {
		record, reply = 0, api.MailFull
	}
	if record != 0 {
		r.step(m.to, api.Record{Kind: record, Epoch: m.epoch, Peer: m.from})
	}
	return mail{reply, m.epoch, m.to, m.from}, reply != 0
}

// nag is what a server says again, if it does.
func (r *run) nag(server int) (mail, bool) {
	l := r.row[server]
	kind := ledger.Nag(l)
	return mail{kind, l.Epoch, server, l.Peer}, kind != 0
}

// tell has a server offer or cancel, if it can.
func (r *run) tell(server int) {
	r.t.Helper()
	l := r.row[server]
	switch {
	case l.Phase == api.Owned && l.Epoch <= maxEpoch-2 && len(r.row) > 1:
		r.step(server, offerTo((server+1+r.dice.Intn(len(r.row)-1))%len(r.row)))
	case l.Phase == api.Offered:
		r.step(server, rec(api.RecCancel))
	}
}

// act is one thing that may happen, at random.
func (r *run) act() {
	r.t.Helper()
	switch n := len(r.sent); {
	case r.dice.Intn(12) == 0:
		r.tell(r.dice.Intn(len(r.row)))
	case r.dice.Intn(3) == 0 || n == 0:
		if m, ok := r.nag(r.dice.Intn(len(r.row))); ok {
			r.send(m)
		}
	default:
		late := r.dice.Intn(n)
		if r.dice.Intn(3) > 0 {
			late = n - 1 - r.dice.Intn(min(n, 4))
		}
		if m, ok := r.hear(r.sent[late], r.dice.Intn(8) == 0); ok {
			r.send(m)
		}
	}
}

// order says which of so many messages under way is heard next.
type order func(n int) int

func orders(dice *rand.Rand) []order {
	return []order{
		func(n int) int { return 0 },
		func(n int) int { return n - 1 },
		dice.Intn,
	}
}

// settle hears all that is under way, and all that comes of it.
func (r *run) settle(under []mail, next order, full bool) {
	r.t.Helper()
	for count := 0; len(under) > 0; count++ {
		if count > 1000 {
			r.t.Fatalf("it does not end: %v, under way %v", r.row, under)
		}
		i := next(len(under))
		m := under[i]
		under = slices.Delete(under, i, i+1)
		if back, ok := r.hear(m, full); ok {
			under = append(under, back)
		}
	}
}

// round has each ledger's Nag sent at once, and then heard; or, apart, one server's behind the other's.
func (r *run) round(next order, full, apart bool) {
	r.t.Helper()
	var under []mail
	for server := range r.row {
		m, ok := r.nag(server)
		if ok {
			under = append(under, m)
		}
		if apart {
			r.settle(under, next, full)
			under = nil
		}
	}
	r.settle(under, next, full)
}

// wantEnds asks that two rounds behind this row, however they are heard, end all transfers.
func wantEnds(t *testing.T, all []api.Ledger, dice *rand.Rand) {
	t.Helper()
	for _, next := range orders(dice) {
		for way := range 4 {
			r := newRun(t, all, dice)
			r.round(next, way&1 > 0, way&2 > 0)
			r.round(next, way&1 > 0, way&2 > 0)
			for _, l := range r.row {
				if l.Phase == api.Offered || l.Phase == api.Committed || l.Phase == api.Installed {
					t.Fatalf("two rounds behind %v: %v", all, r.row)
				}
			}
			holder := ledger.Holder(r.row)
			if holder < 0 || !ledger.Serves(r.row[holder]) || !ledger.Sound(r.row) {
				t.Fatalf("two rounds behind %v: %v, the Holder is %d", all, r.row, holder)
			}
		}
	}
}

// P15.11, P15.12: runs of 1 to 8 servers, from the first epochs on and near the last, with messages lost, doubled and late; the rounds behind them.
func TestRuns(t *testing.T) {
	dice := rand.New(rand.NewSource(1511))
	var records, heard [9]int
	for number := range 3000 {
		servers := 1 + number%maxServers
		first := firstRow(servers, dice.Intn(servers))
		if number%3 == 0 {
			first = lateRow(servers, dice.Intn(servers), maxEpoch-2*dice.Intn(8))
		}
		r := newRun(t, first, dice)
		for range dice.Intn(400) {
			r.act()
		}
		wantEnds(t, r.row, dice)
		for i := range records {
			records[i] += r.records[i]
			heard[i] += r.heard[i]
		}
	}
	for kind := api.RecOffer; kind <= api.RecForget; kind++ {
		if records[kind] < 1000 {
			t.Errorf("the record %d was done %d times only", kind, records[kind])
		}
	}
	for kind := api.MailOffer; kind <= api.MailFull; kind++ {
		if heard[kind] < 1000 {
			t.Errorf("the message %d was heard %d times only", kind, heard[kind])
		}
	}
}

// P15.11: a shard goes from server 0 to server 1, each message heard twice.
func TestRunStraight(t *testing.T) {
	r := newRun(t, firstRow(2, 0), nil)
	r.step(0, offerTo(1))
	for _, c := range []struct {
		m    mail
		back mail
		then []api.Ledger
	}{
		{mail{api.MailOffer, 1, 0, 1}, mail{api.MailHave, 1, 1, 0}, row(offered(1, 1), installed(1, 0))},
		{mail{api.MailHave, 1, 1, 0}, mail{api.MailCommit, 1, 0, 1}, row(committed(1, 1), installed(1, 0))},
		{mail{api.MailCommit, 1, 0, 1}, mail{api.MailMine, 1, 1, 0}, row(committed(1, 1), owned(1, 1))},
		{mail{api.MailMine, 1, 1, 0}, mail{0, 1, 0, 1}, row(released(1, 1), owned(1, 1))},
	} {
		for range 2 {
			if back, _ := r.hear(c.m, false); back != c.back || !slices.Equal(r.row, c.then) {
				t.Fatalf("behind %v: %v, and %v", c.m, r.row, back)
			}
		}
	}
	r.hear(mail{api.MailOffer, 1, 0, 1}, false)
	if !slices.Equal(r.row, row(released(1, 1), owned(1, 1))) {
		t.Errorf("behind a late OFFER: %v", r.row)
	}
}

// P15.11: an offer is cancelled; its OFFER comes late, is installed, and forgotten.
func TestRunCancelled(t *testing.T) {
	r := newRun(t, firstRow(2, 0), nil)
	r.step(0, offerTo(1))
	r.step(0, rec(api.RecCancel))
	have, _ := r.hear(mail{api.MailOffer, 1, 0, 1}, false)
	if !slices.Equal(r.row, row(owned(2, 0), installed(1, 0))) {
		t.Fatalf("behind the late OFFER: %v", r.row)
	}
	cancel, _ := r.hear(have, false)
	r.hear(cancel, false)
	if cancel.kind != api.MailCancel || !slices.Equal(r.row, row(owned(2, 0), released(1, 0))) {
		t.Errorf("behind %v: %v", cancel, r.row)
	}
}

// P15.11: MINE is lost, and the shard is offered back meanwhile: the OFFER waits until MINE was said again.
func TestRunBack(t *testing.T) {
	r := newRun(t, row(committed(1, 1), owned(1, 1)), nil)
	r.step(1, offerTo(0))
	offer, _ := r.nag(1)
	if _, ok := r.hear(offer, false); ok || ledger.Holder(r.row) != 1 || r.row[0] != committed(1, 1) {
		t.Fatalf("behind an OFFER to one that is Committed: %v", r.row)
	}
	commit, _ := r.nag(0)
	mine, _ := r.hear(commit, false)
	r.hear(mine, false)
	if mine != (mail{api.MailMine, 1, 1, 0}) || r.row[0] != released(1, 1) {
		t.Fatalf("behind %v: %v", mine, r.row)
	}
	r.hear(offer, false)
	if !slices.Equal(r.row, row(installed(2, 1), offered(2, 0))) {
		t.Errorf("behind the OFFER, said again: %v", r.row)
	}
}

// P15.11: a server without room says FULL, and the offer is cancelled; FULL that is late changes nothing.
func TestRunFull(t *testing.T) {
	r := newRun(t, firstRow(3, 0), nil)
	r.step(0, offerTo(1))
	offer, _ := r.nag(0)
	full, _ := r.hear(offer, true)
	if full != (mail{api.MailFull, 1, 1, 0}) || r.row[1] != absent(0, 0) {
		t.Fatalf("behind an OFFER without room: %v, and %v", r.row, full)
	}
	for range 2 {
		r.hear(full, false)
		if !slices.Equal(r.row, row(owned(2, 0), absent(0, 0), absent(0, 0))) {
			t.Fatalf("behind FULL: %v", r.row)
		}
	}
	r.step(0, offerTo(1))
	r.hear(full, false)
	if r.row[0] != offered(3, 1) {
		t.Errorf("behind a late FULL: %v", r.row)
	}
}
