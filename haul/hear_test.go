package haul_test

import (
	"fmt"
	"slices"
	"testing"

	"haulage/api"
)

// callsFor has, of each record that a message can call for, a ledger of server 1 out of 3 and the message; the reply is told beside it.
type callsFor struct {
	record int
	was    api.Ledger
	m      api.Mail
	then   api.Ledger
	reply  int
}

func allCalls(t *testing.T) []callsFor {
	t.Helper()
	return []callsFor{
		{api.RecInstall, absent(0), offerOf(t, 2, 1, 0, 5, copyOf(7)), installed(5, 2), api.MailHave},
		{api.RecInstall, released(4, 2), offerOf(t, 2, 1, 0, 5, copyOf(7)), installed(5, 2), api.MailHave},
		{api.RecInstall, installed(4, 0), offerOf(t, 2, 1, 0, 5, copyOf(7)), installed(5, 2), api.MailHave},
		{api.RecCommit, offered(5, 2), plain(api.MailHave, 2, 1, 0, 5), committed(5, 2), api.MailCommit},
		{api.RecOwn, installed(5, 2), plain(api.MailCommit, 2, 1, 0, 5), owned(5, 1), api.MailMine},
		{api.RecRelease, committed(5, 2), plain(api.MailMine, 2, 1, 0, 5), released(5, 2), 0},
		{api.RecForget, installed(5, 2), plain(api.MailCancel, 2, 1, 0, 5), released(5, 2), 0},
		{api.RecCancel, offered(5, 2), plain(api.MailFull, 2, 1, 0, 5), owned(6, 1), 0},
	}
}

// P21.3: each record that layer 15's Hear can call for, and each reply behind it.
func TestEachRecord(t *testing.T) {
	for _, c := range allCalls(t) {
		what := fmt.Sprint("record ", c.record)
		p := pairOf(t, 1, 3, knownOf(c.was, owned(9, 1))...)
		said, err := p.hear(c.m)
		if c.reply == 0 {
			wantSaid(t, what, said, err)
		} else {
			wantSaid(t, what, said, err, plain(c.reply, 1, 2, 0, 5))
		}
		wantLedger(t, what, p.e, 0, c.then)
		wantLedger(t, what+": the other shard", p.e, 1, owned(9, 1))
		if c.record == api.RecInstall {
			wantBytes(t, what+": the copy", p.e.Export(0), copyOf(7))
		}
	}
}

// P21.3: each reply for which there is no record, said with the message's Epoch and to who sent it, whatever the ledger has; nothing is written.
func TestRepliesAlone(t *testing.T) {
	for _, c := range []struct {
		was   api.Ledger
		m     api.Mail
		reply int
	}{
		{installed(5, 2), offerOf(t, 2, 1, 0, 5, emptyCopy()), api.MailHave},
		{committed(5, 2), plain(api.MailHave, 2, 1, 0, 5), api.MailCommit},
		{owned(5, 1), plain(api.MailHave, 2, 1, 0, 3), api.MailCancel},
		{owned(5, 1), plain(api.MailHave, 0, 1, 0, 4), api.MailCancel},
		{offered(5, 2), plain(api.MailHave, 0, 1, 0, 4), api.MailCancel},
		{committed(5, 2), plain(api.MailHave, 2, 1, 0, 1), api.MailCancel},
		{installed(5, 2), plain(api.MailHave, 0, 1, 0, 4), api.MailCancel},
		{released(5, 2), plain(api.MailHave, 0, 1, 0, 4), api.MailCancel},
		{owned(5, 1), plain(api.MailCommit, 0, 1, 0, 5), api.MailMine},
		{owned(5, 1), plain(api.MailCommit, 2, 1, 0, 2), api.MailMine},
		{offered(5, 2), plain(api.MailCommit, 0, 1, 0, 3), api.MailMine},
		{committed(5, 2), plain(api.MailCommit, 0, 1, 0, 5), api.MailMine},
		{installed(5, 2), plain(api.MailCommit, 0, 1, 0, 4), api.MailMine},
		{released(5, 2), plain(api.MailCommit, 2, 1, 0, 5), api.MailMine},
	} {
		p := pairOf(t, 1, 3, knownOf(c.was)...)
		writes, syncs := p.d.Counts()
		for range 3 {
			said, err := p.hear(c.m)
			wantSaid(t, short(c.m), said, err, plain(c.reply, 1, c.m.From, 0, c.m.Epoch))
			wantLedger(t, short(c.m), p.e, 0, c.was)
		}
		now, nowSyncs := p.d.Counts()
		wantNum(t, "writes", now, writes)
		wantNum(t, "syncs", nowSyncs, syncs)
	}
}

// somewhere are ledgers of the first shard, of each phase, that are sound at a server out of some, at few epochs and at the last ones.
func somewhere(server, servers int) []api.Ledger {
	all := []api.Ledger{atFirst(0, server, servers)}
	for _, epoch := range []int{1, 2, 3, maxEpoch - 2, maxEpoch - 1, maxEpoch} {
		all = append(all, owned(epoch, server))
		for peer := range servers {
			if peer == server {
				continue
			}
			all = append(all, committed(epoch, peer), installed(epoch, peer), released(epoch, peer))
			if epoch < maxEpoch {
				all = append(all, offered(epoch, peer))
			}
		}
	}
	return all
}

// wordsTo are messages of all kinds to a server, right ones and wrong ones.
func wordsTo(server, servers int) []api.Mail {
	var all []api.Mail
	for kind := -1; kind <= 10; kind++ {
		for from := -1; from <= servers; from++ {
			for _, epoch := range []int{-1, 0, 1, 2, 3, 4, maxEpoch - 3, maxEpoch - 2, maxEpoch - 1, maxEpoch, maxEpoch + 1} {
				all = append(all, plain(kind, from, server, 0, epoch))
			}
		}
	}
	return all
}

// P21.3: each message at each ledger, with a right copy, with none, and with one of another root: in lockstep with the telling.
func TestEachMessageAtEachLedger(t *testing.T) {
	const servers = 3
	root := rootOf(t, copyOf(2))
	for server := range servers {
		words := wordsTo(server, servers)
		for _, l := range somewhere(server, servers) {
			s := setupOf(servers, 1)
			form := formOf(t, server, servers, []known{{l, copyOf(1)}})
			image := imageOf(t, s, 1, form)
			p := pairOver(t, s, server, image)
			for _, m := range words {
				for _, turn := range []func(){func() {}, func() { m.Root, m.Copy = root, copyOf(2) }, func() { m.Root++ }} {
					turn()
					if p.hear(m); !slices.Equal(p.e.Bytes(), form) {
						p = pairOver(t, s, server, image)
					}
					if m.Kind != api.MailOffer && m.Copy != nil {
						break
					}
				}
			}
		}
	}
}

// P21.3: what is no message for this server: nothing and OK, and nothing is done, though a right one would have been.
func TestOddMessages(t *testing.T) {
	turns := map[string]func(m *api.Mail){
		"no kind":                     func(m *api.Mail) { m.Kind = 0 },
		"a kind below all":            func(m *api.Mail) { m.Kind = -m.Kind },
		"a kind behind all":           func(m *api.Mail) { m.Kind = 9 },
		"a kind far behind":           func(m *api.Mail) { m.Kind += 1 << 32 },
		"a request's kind":            func(m *api.Mail) { m.Kind = api.MailRequest },
		"a reply's kind":              func(m *api.Mail) { m.Kind = api.MailReply },
		"to server 0":                 func(m *api.Mail) { m.To = 0 },
		"to the sender":               func(m *api.Mail) { m.To = m.From },
		"to a server that is not":     func(m *api.Mail) { m.To = 3 },
		"to nobody":                   func(m *api.Mail) { m.To = -1 },
		"to a client":                 func(m *api.Mail) { m.To = 101 },
		"from itself":                 func(m *api.Mail) { m.From = 1 },
		"from a server that is not":   func(m *api.Mail) { m.From = 3 },
		"from the last server's name": func(m *api.Mail) { m.From = 7 },
		"from no server's name":       func(m *api.Mail) { m.From = 8 },
		"from nobody":                 func(m *api.Mail) { m.From = -1 },
		"from a client":               func(m *api.Mail) { m.From = 102 },
		"a shard that is not":         func(m *api.Mail) { m.Shard = 2 },
		"the last shard's number":     func(m *api.Mail) { m.Shard = 63 },
		"no shard's number":           func(m *api.Mail) { m.Shard = 64 },
		"a shard below all":           func(m *api.Mail) { m.Shard = -1 },
		"a shard far from all":        func(m *api.Mail) { m.Shard = 1 << 32 },
		"no epoch":                    func(m *api.Mail) { m.Epoch = 0 },
		"an epoch below all":          func(m *api.Mail) { m.Epoch = -5 },
		"an epoch behind all":         func(m *api.Mail) { m.Epoch = maxEpoch + 1 },
		"an epoch far behind":         func(m *api.Mail) { m.Epoch += 1 << 32 },
		"a client":                    func(m *api.Mail) { m.Client = 1 },
		"a seq":                       func(m *api.Mail) { m.Seq = 1 },
		"an op's kind":                func(m *api.Mail) { m.Op.Kind = 1 },
		"an op's key":                 func(m *api.Mail) { m.Op.Key = []byte{1} },
		"an op's value":               func(m *api.Mail) { m.Op.Value = []byte{1} },
		"an op's rev":                 func(m *api.Mail) { m.Op.Rev = 1 },
		"a verdict":                   func(m *api.Mail) { m.Verdict = 181 },
		"an answer that is done":      func(m *api.Mail) { m.Answer.Done = true },
		"an answer's key":             func(m *api.Mail) { m.Answer.Key = []byte{1} },
		"an answer's value":           func(m *api.Mail) { m.Answer.Value = []byte{1} },
		"an answer's rev":             func(m *api.Mail) { m.Answer.Rev = 1 },
		"an answer's at":              func(m *api.Mail) { m.Answer.At = 1 },
		"a hint":                      func(m *api.Mail) { m.Hint = 1 },
	}
	for _, c := range allCalls(t) {
		for what, turn := range turns {
			wantPassedOver(t, fmt.Sprint(what, ", record ", c.record), c, turn)
		}
		if c.record != api.RecInstall {
			wantPassedOver(t, "a root of none", c, func(m *api.Mail) { m.Root = 1 })
			wantPassedOver(t, "a copy of none", c, func(m *api.Mail) { m.Copy = emptyCopy() })
		}
	}
}

// wantPassedOver asks that a message which is turned so brings nothing and changes nothing, and that it would have without that.
func wantPassedOver(t *testing.T, what string, c callsFor, turn func(m *api.Mail)) {
	t.Helper()
	p := pairOf(t, 1, 3, knownOf(c.was, owned(9, 1))...)
	p.tick()
	left, before := p.h.Left(0), tale(p.e)
	image := p.d.Image()
	writes, syncs := p.d.Counts()
	m := c.m
	turn(&m)
	said, err := p.hear(m)
	wantSaid(t, what, said, err)
	wantNum(t, what+": Left", p.h.Left(0), left)
	wantText(t, what, tale(p.e), before)
	wantBytes(t, what, p.d.Image(), image)
	now, nowSyncs := p.d.Counts()
	wantNum(t, what+": writes", now, writes)
	wantNum(t, what+": syncs", nowSyncs, syncs)
	p.hear(c.m)
	wantLedger(t, what+": the right one behind it", p.e, 0, c.then)
}

// P21.3: requests and replies that are sound, to this server and to others.
func TestRequestsAndReplies(t *testing.T) {
	for _, c := range allCalls(t) {
		p := pairOf(t, 1, 3, knownOf(c.was)...)
		before := tale(p.e)
		for _, m := range []api.Mail{
			{Kind: api.MailRequest, From: 103, To: 1, Client: 3, Seq: 1, Op: put("a", "1")},
			{Kind: api.MailRequest, From: 100, To: 1, Seq: 1, Op: put("a", "1")},
			{Kind: api.MailRequest, From: 100, To: 0, Seq: 1, Op: put("a", "1")},
			{Kind: api.MailReply, From: 2, To: 103, Client: 3, Seq: 1, Answer: api.Answer{Done: true, At: 1}},
			{Kind: api.MailReply, From: 1, To: 101, Client: 1, Seq: 1, Verdict: 221, Hint: 2},
		} {
			said, err := p.hear(m)
			wantSaid(t, short(m), said, err)
			wantText(t, short(m), tale(p.e), before)
		}
	}
}

// P21.3: of each server and shard at the edges: the first and the last server, the first and the last shard.
func TestFirstAndLast(t *testing.T) {
	for _, servers := range []int{2, 8} {
		for _, shards := range []int{1, 2, 64} {
			for _, shard := range []int{0, shards - 1} {
				for _, ends := range [][2]int{{0, servers - 1}, {servers - 1, 0}} {
					row := knownOf(slices.Repeat([]api.Ledger{released(1, ends[0])}, shards)...)
					p := pairOf(t, ends[1], servers, row...)
					said, err := p.hear(offerOf(t, ends[0], ends[1], shard, 2, copyOf(1)))
					wantSaid(t, "an offer", said, err, plain(api.MailHave, ends[1], ends[0], shard, 2))
					wantLedger(t, "an offer", p.e, shard, installed(2, ends[0]))
					said, err = p.hear(offerOf(t, ends[0], ends[1], shards, 2, copyOf(1)))
					wantSaid(t, "an offer of a shard behind the last", said, err)
					said, err = p.hear(offerOf(t, servers, ends[1], shard, 3, copyOf(1)))
					wantSaid(t, "an offer of a server behind the last", said, err)
				}
			}
		}
	}
}
