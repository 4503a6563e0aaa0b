package haul_test

import (
	"math/rand"
	"slices"
	"testing"

	"haulage/api"
)

// P21.4, P21.5: the waits are 1, 2, 4, 8, 8, .. ticks, in each phase in which something is said, from each server.
func TestWaits(t *testing.T) {
	const servers = 3
	ends := []int{1, 3, 7, 15, 23, 31, 39, 47}
	left := []int{2, 1, 4, 3, 2, 1, 8, 7, 6, 5, 4, 3, 2, 1, 8, 7, 6, 5, 4, 3, 2, 1, 8, 7}
	for server := range servers {
		peer := (server + 2) % servers
		for _, c := range []struct {
			l    api.Ledger
			said api.Mail
		}{
			{offered(7, peer), offerOf(t, server, peer, 0, 7, copyOf(5))},
			{committed(7, peer), plain(api.MailCommit, server, peer, 0, 7)},
			{installed(7, peer), plain(api.MailHave, server, peer, 0, 7)},
		} {
			p := pairOf(t, server, servers, known{c.l, copyOf(5)})
			wantNum(t, "Left ahead of the first tick", p.h.Left(0), 1)
			for tick := 1; tick < 50; tick++ {
				said, err := p.tick()
				if slices.Contains(ends, tick) {
					wantSaid(t, "a tick", said, err, c.said)
				} else {
					wantSaid(t, "a tick", said, err)
				}
				if tick <= len(left) {
					wantNum(t, "Left", p.h.Left(0), left[tick-1])
				}
			}
			wantLedger(t, "behind all", p.e, 0, c.l)
		}
	}
}

// P21.4: of a shard of which nothing is to be said no tick is counted.
func TestNothingToSay(t *testing.T) {
	p := pairOf(t, 1, 3, knownOf(absent(0), owned(2, 1), released(3, 0))...)
	for range 40 {
		said, err := p.tick()
		wantSaid(t, "a tick", said, err)
		for shard := range 3 {
			wantNum(t, "Left", p.h.Left(shard), 1)
		}
	}
	p.move(1, 2)
	said, err := p.tick()
	wantSaid(t, "the first tick behind a move", said, err, offerOf(t, 1, 2, 1, 3, emptyCopy()))
}

// P21.4: over as many shards as there may be: what is said stands by rising shards, each with its own kind, peer and epoch.
func TestManyShards(t *testing.T) {
	const servers = 8
	for _, server := range []int{0, 3, 7} {
		var row []known
		var wanted []api.Mail
		for shard := range maxShards {
			epoch, peer := 1+shard*1000, (server+1+shard%7)%servers
			row = append(row, known{[]api.Ledger{offered(epoch, peer), owned(epoch, server), committed(epoch, peer), released(epoch, peer), installed(epoch, peer)}[shard%5], copyOf(shard % 3)})
			switch shard % 5 {
			case 0:
				wanted = append(wanted, offerOf(t, server, peer, shard, epoch, copyOf(shard%3)))
			case 2:
				wanted = append(wanted, plain(api.MailCommit, server, peer, shard, epoch))
			case 4:
				wanted = append(wanted, plain(api.MailHave, server, peer, shard, epoch))
			}
		}
		p := pairOf(t, server, servers, row...)
		for tick := 1; tick <= 24; tick++ {
			said, err := p.tick()
			if tick == 1 || tick == 3 || tick%8 == 7 {
				wantSaid(t, "a tick", said, err, wanted...)
			} else {
				wantSaid(t, "a tick", said, err)
			}
		}
	}
}

// P21.4: shards that began anew at unlike times; each tick says those whose wait is over, and no others.
func TestUnlikeWaits(t *testing.T) {
	row := make([]known, 12)
	for i := range row {
		row[i] = known{l: owned(5, 1)}
	}
	p := pairOf(t, 1, 3, row...)
	began := make([]int, 12)
	for tick := 1; tick <= 60; tick++ {
		if shard := 11 - tick/3; tick%3 == 1 && shard >= 0 {
			p.move(shard, 2)
			began[shard] = tick
		}
		said, err := p.tick()
		wantErr(t, "a tick", err, api.OK)
		var got, wanted []int
		for _, m := range said {
			got = append(got, m.Shard)
		}
		for shard, first := range began {
			if n := tick - first + 1; first > 0 && (n == 1 || n == 3 || n%8 == 7) {
				wanted = append(wanted, shard)
			}
		}
		if !slices.Equal(got, wanted) {
			t.Fatalf("tick %d: shards %v, want %v", tick, got, wanted)
		}
	}
}

// P21.5: Left of each shard, of those that there are not, and of a Haul whose engine has died.
func TestLeft(t *testing.T) {
	p := pairOf(t, 1, 3, knownOf(offered(1, 2), owned(1, 1), committed(1, 2))...)
	check := func(what string, wanted ...int) {
		t.Helper()
		for i, n := range wanted {
			wantNum(t, what, p.h.Left(i-1), n)
		}
		for _, shard := range append(farNumbers(), -1, -3, 3, 4, 62, 63, 64, 65, 128, 1<<32+2) {
			wantNum(t, what+": a shard that there is not", p.h.Left(shard), 0)
		}
	}
	check("a new one", 0, 1, 1, 1, 0)
	for range 5 {
		p.tick()
	}
	check("behind five ticks", 0, 2, 1, 2, 0)
	p.move(1, 0)
	p.tick()
	check("behind a move and a tick", 0, 1, 2, 1, 0)
	p.fuse(0)
	wantErr(t, "Cancel without power", p.cancel(1), errEngDead)
	check("dead", 0, 1, 2, 1, 0)
}

// someRecord is a record that an engine with this ledger takes most of the time.
func someRecord(r *rand.Rand, server, servers, shard, seq int, l api.Ledger) api.Record {
	peer := (server + 1 + r.Intn(servers-1)) % servers
	switch k := r.Intn(4); {
	case k == 0:
		return api.Record{Kind: 1 + r.Intn(9), Shard: shard, Peer: peer, Epoch: r.Intn(3)}
	case l.Phase == api.Owned && k == 1:
		return write(shard, 2, seq, put(text(1, seq), text(r.Intn(30), seq)))
	case l.Phase == api.Owned:
		return api.Record{Kind: api.RecOffer, Shard: shard, Peer: peer}
	case l.Phase == api.Offered:
		return api.Record{Kind: []int{api.RecCancel, api.RecCommit, api.RecCommit}[k-1], Shard: shard}
	case l.Phase == api.Committed:
		return api.Record{Kind: api.RecRelease, Shard: shard}
	case l.Phase == api.Installed && k > 1:
		return api.Record{Kind: []int{api.RecOwn, api.RecForget}[k-2], Shard: shard}
	}
	return api.Record{Kind: api.RecInstall, Shard: shard, Epoch: l.Epoch + 1 + r.Intn(3), Peer: peer, Copy: copyOf(r.Intn(9))}
}

// someMail is a message that calls for something most of the time.
func someMail(t *testing.T, r *rand.Rand, server, servers, shard int, l api.Ledger) api.Mail {
	t.Helper()
	m := plain(3+r.Intn(6), r.Intn(servers), server, shard, max(1, l.Epoch-1+r.Intn(3)))
	if r.Intn(3) > 0 {
		m.From, m.Epoch = l.Peer, max(1, l.Epoch)
	}
	if m.Kind == api.MailOffer {
		m.Epoch = l.Epoch + r.Intn(3)
		m.Copy = copyOf(r.Intn(12))
		if m.Root = rootOf(t, m.Copy); r.Intn(8) == 0 {
			m.Root ^= 1 << r.Intn(64)
		}
	}
	switch r.Intn(40) {
	case 0:
		m.To = r.Intn(9) - 1
	case 1:
		m.Shard = r.Intn(66) - 1
	case 2:
		m.From = r.Intn(10) - 1
	case 3:
		m.Kind = r.Intn(11) - 1
	}
	return m
}

// P21.2 to P21.5: any calls, and records that the engine does behind the Haul's back (with which no shard begins anew), crashes, and powers' ends at each place: in lockstep with the telling.
func TestAnyCalls(t *testing.T) {
	r := rand.New(rand.NewSource(214))
	for range 60 {
		servers, shards := 2+r.Intn(7), 1+r.Intn(6)
		server := r.Intn(servers)
		p := pairOfNew(t, setupOf(servers, shards), server)
		for seq := range 300 {
			if p.e.Dead() || r.Intn(150) == 0 {
				p.crash([]bool{r.Intn(2) == 0, r.Intn(2) == 0}, r.Intn(4)-1, r.Intn(65))
				wantErr(t, "Open", p.open(), api.OK)
			}
			shard := r.Intn(shards)
			l := p.m.ledger(shard)
			switch k := r.Intn(20); {
			case k < 6:
				p.tick()
			case k < 8:
				p.move(shard, r.Intn(servers+1))
			case k == 8:
				p.cancel(shard)
			case k == 9:
				p.do(someRecord(r, server, servers, shard, 1+seq, l))
			case k == 10 && r.Intn(4) == 0:
				p.fuse(r.Intn(12))
			case k == 11:
				p.tidy()
			default:
				p.hear(someMail(t, r, server, servers, shard, l))
			}
		}
	}
}
