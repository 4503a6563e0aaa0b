package server

import (
	"testing"

	"haulage/api"
	"haulage/disk"
	"haulage/jump"
	"haulage/mail"
	"haulage/shard"
)

// P22.4, P22.3: the clock goes up to MaxTime, and stays there: requests are answered and counted, shards go and come, ticks say again. No caller has so many ticks; so it is asked of what stands behind Open.
func TestClockAtItsEnd(t *testing.T) {
	d, _ := disk.New(176)
	home := jump.Home(0, 2)
	s, err := Open(d, home, api.Setup{Servers: 2, Shards: 1, Layout: api.Layout{Log: 24, Shot: 64}})
	if err != api.OK {
		t.Fatalf("Open: error %d", err)
	}
	hear := func(m api.Mail) int {
		t.Helper()
		data, err := mail.Encode(m)
		if err != api.OK {
			t.Fatalf("Encode: error %d", err)
		}
		said, err := s.Hear(data)
		if err != api.OK {
			t.Fatalf("Hear: error %d", err)
		}
		return len(said)
	}
	read := api.Mail{Kind: api.MailRequest, From: 103, To: home, Client: 3, Seq: 1, Op: api.Op{Kind: api.OpSeek}}
	hear(read)
	s.clock = api.MaxTime - 2
	if _, err := s.Move(0, 1-home); err != api.OK {
		t.Fatalf("Move: error %d", err)
	}
	for tick, letters := range []int{1, 0, 1, 0, 0, 0, 1} {
		said, err := s.Tick()
		if err != api.OK || len(said) != letters || s.Clock() != min(api.MaxTime-1+tick, api.MaxTime) {
			t.Fatalf("tick %d: %d letters, error %d, Clock %d", tick, len(said), err, s.Clock())
		}
	}
	if loads := s.Loads(); loads[0] != 0 {
		t.Fatalf("Loads: %v", loads)
	}
	hear(api.Mail{Kind: api.MailHave, From: 1 - home, To: home, Epoch: 1})
	hear(api.Mail{Kind: api.MailMine, From: 1 - home, To: home, Epoch: 1})
	if span, err := s.Span(1); s.Spans() != 1 || span != 2 || err != api.OK {
		t.Fatalf("%d spans, the first one %d, error %d", s.Spans(), span, err)
	}
	copied := shard.New()
	offer := api.Mail{Kind: api.MailOffer, From: 1 - home, To: home, Epoch: 2, Root: copied.Root(), Copy: copied.Export()}
	if hear(offer) != 1 || hear(api.Mail{Kind: api.MailCommit, From: 1 - home, To: home, Epoch: 2}) != 1 {
		t.Fatal("it does not come back")
	}
	if hear(read) != 1 || hear(read) != 1 {
		t.Fatal("a read is not answered")
	}
	if loads := s.Loads(); loads[0] != 2 {
		t.Fatalf("Loads: %v", loads)
	}
}
