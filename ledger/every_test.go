package ledger_test

import (
	"math/rand"
	"testing"

	"haulage/api"
	"haulage/ledger"
)

// few are the ledgers of up to four servers; those behind the last server stay zero.
type few [4]api.Ledger

// mailSet are messages by their numbers: a set that can be compared as a whole.
type mailSet [8]uint64

// moment is what a run of few servers has come to: their ledgers, and all that was ever sent.
type moment struct {
	row  few
	sent mailSet
}

// search goes through every run of few servers with epochs from base to last.
type search struct {
	t                   *testing.T
	servers, base, last int
}

// number tells the messages apart: there are six kinds, few servers, and few epochs.
func (s search) number(m mail) int {
	return (((m.epoch-s.base-1)*6+m.kind-api.MailOffer)*s.servers+m.from)*s.servers + m.to
}

func (s search) mail(number int) mail {
	to, from, rest := number%s.servers, number/s.servers%s.servers, number/s.servers/s.servers
	return mail{kind: api.MailOffer + rest%6, epoch: s.base + 1 + rest/6, from: from, to: to}
}

func (set mailSet) has(number int) bool { return set[number/64]>>(number%64)&1 > 0 }

func (s search) send(set *mailSet, m mail) {
	number := s.number(m)
	set[number/64] |= 1 << (number % 64)
}

// sayAll sends all that can be sent while no ledger changes. Who has more messages to choose from can do whatever he could with fewer: so this leaves no row out.
func (s search) sayAll(now moment) moment {
	for server := range s.servers {
		if l := now.row[server]; ledger.Nag(l) != 0 {
			s.send(&now.sent, mail{ledger.Nag(l), l.Epoch, server, l.Peer})
		}
	}
	for {
		before := now.sent
		for _, m := range s.all(now.sent) {
			record, reply := ledger.Hear(m.to, now.row[m.to], m.kind, m.epoch, m.from)
			if record == api.RecInstall {
				s.send(&now.sent, mail{api.MailFull, m.epoch, m.to, m.from})
			}
			if record == 0 && reply != 0 {
				s.send(&now.sent, mail{reply, m.epoch, m.to, m.from})
			}
		}
		if now.sent == before {
			return now
		}
	}
}

func (s search) all(set mailSet) []mail {
	var all []mail
	for number := range len(set) * 64 {
		if set.has(number) {
			all = append(all, s.mail(number))
		}
	}
	return all
}

// step is the moment behind a record.
func (s search) step(now moment, server int, r api.Record) moment {
	s.t.Helper()
	was := now.row[server]
	l, err := ledger.Step(server, was, r)
	if err != api.OK || l.Epoch < was.Epoch {
		s.t.Fatalf("at %v, server %d, kind %d: %v, error %d", now.row, server, r.Kind, l, err)
	}
	now.row[server] = l
	return now
}

// behind are the moments that may follow.
func (s search) behind(now moment) []moment {
	s.t.Helper()
	var all []moment
	for _, m := range s.all(now.sent) {
		record, reply := ledger.Hear(m.to, now.row[m.to], m.kind, m.epoch, m.from)
		if record == 0 {
			continue
		}
		next := s.step(now, m.to, api.Record{Kind: record, Epoch: m.epoch, Peer: m.from})
		if reply != 0 {
			s.send(&next.sent, mail{reply, m.epoch, m.to, m.from})
		}
		if next.row[m.to].Epoch <= s.last {
			all = append(all, s.sayAll(next))
		}
	}
	for server := range s.servers {
		l := now.row[server]
		if l.Phase == api.Offered && l.Epoch < s.last {
			all = append(all, s.sayAll(s.step(now, server, rec(api.RecCancel))))
		}
		if l.Phase != api.Owned || l.Epoch >= s.last || l.Epoch > maxEpoch-2 {
			continue
		}
		for to := range s.servers {
			if to != server {
				all = append(all, s.sayAll(s.step(now, server, offerTo(to))))
			}
		}
	}
	return all
}

// rows are all rows that come about, in the order in which they are found.
func (s search) rows() []few {
	s.t.Helper()
	var first moment
	copy(first.row[:], lateRow(s.servers, 0, s.base))
	todo := []moment{first}
	seen := map[moment]int{first: 1}
	known := map[few]int{}
	var found []few
	for len(todo) > 0 {
		now := todo[len(todo)-1]
		todo = todo[:len(todo)-1]
		if known[now.row]++; known[now.row] == 1 {
			found = append(found, now.row)
		}
		for _, next := range s.behind(now) {
			if seen[next] == 0 {
				seen[next] = 1
				todo = append(todo, next)
			}
		}
	}
	return found
}

// wantFound asks that runs at random come to no row that the search has not found.
func (s search) wantFound(found []few, dice *rand.Rand) {
	s.t.Helper()
	known := map[few]int{}
	for _, one := range found {
		known[one]++
	}
	for range 200 {
		r := newRun(s.t, lateRow(s.servers, 0, s.base), dice)
		for range 60 {
			r.act()
			var now few
			copy(now[:], r.row)
			if within := r.row[ledger.Holder(r.row)].Epoch <= s.last; within && known[now] == 0 {
				s.t.Fatalf("%v was not found", now)
			}
		}
	}
}

// P15.11, P15.12: every run of two to four servers with few epochs, from the first on and up to the last: each row is sound, and comes to its end.
func TestEveryRun(t *testing.T) {
	dice := rand.New(rand.NewSource(1512))
	for _, s := range []search{
		{t, 2, 0, 9},
		{t, 2, maxEpoch - 8, maxEpoch},
		{t, 3, 0, 5},
		{t, 3, maxEpoch - 4, maxEpoch},
		{t, 4, 0, 4},
	} {
		found := s.rows()
		for _, one := range found {
			all := one[:s.servers]
			if !ledger.Sound(all) || !toldSound(all) {
				t.Fatalf("%v is not sound", all)
			}
			wantEnds(t, all, dice)
		}
		s.wantFound(found, dice)
	}
}
