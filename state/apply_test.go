package state_test

import (
	"fmt"
	"testing"

	"haulage/api"
)

// ledgersAt are ledgers of shard 0 that may stand in a sound state of this server, in each phase, with the first and the last epochs and the first peers.
func ledgersAt(server, servers int) []api.Ledger {
	var all []api.Ledger
	for phase := range 6 {
		for _, epoch := range []int{0, 1, 9, maxEpoch - 3, maxEpoch - 2, maxEpoch - 1, maxEpoch} {
			for peer := range min(servers, 3) {
				l := api.Ledger{Phase: phase, Epoch: epoch, Peer: peer}
				if begun(server, servers, 1).with(0, l, newCopy()).isSound() {
					all = append(all, l)
				}
			}
		}
	}
	return all
}

// recordsFor are records of all kinds for shard 0, at the edges of what this ledger takes.
func recordsFor(l api.Ledger) []api.Record {
	var all []api.Record
	for _, kind := range append(farNumbers(), -1, 0, 3, 5, 6, 7, 8, 9, 10) {
		all = append(all, plain(kind, 0), api.Record{Kind: kind, Epoch: l.Epoch + 1, Peer: l.Peer, Client: 3, Seq: 7, Op: put("a", "1"), Copy: copyOf(3)})
	}
	copied := copyOf(3)
	for _, peer := range append(farNumbers(), -1, 0, 1, 2, 3, 7, 8, 9) {
		all = append(all, offer(0, peer), install(0, l.Epoch+1, peer, copied))
	}
	for _, peer := range []int{-1, 0, 1, 2, 3, 7, 8} {
		for _, epoch := range []int{-1, 0, 1, l.Epoch - 1, l.Epoch, l.Epoch + 1, l.Epoch + 7, maxEpoch - 1, maxEpoch, maxEpoch + 1} {
			all = append(all, install(0, epoch, peer, copied), install(0, epoch, peer, copied[1:]))
		}
	}
	for _, op := range []api.Op{put("a", "1"), del("k1"), swap("k1", "x", 3), get("a"), {Kind: 9}, put("", "")} {
		for _, seq := range []int{0, 1, 3, 4, 5, maxSeq, maxSeq + 1} {
			all = append(all, write(0, 0, seq, op), api.Record{Kind: api.RecWrite, Client: 15, Seq: seq, Op: op, Epoch: -1, Peer: 99, Copy: []byte{1}}, write(0, 16, seq, op))
		}
	}
	return all
}

// P17.2, P17.3, P17.7: each kind of record in each phase, at each epoch's edges, taken or refused as the words say.
func TestEachRecordInEachPhase(t *testing.T) {
	taken, refused := map[string]int{}, map[api.Errno]int{}
	for _, servers := range []int{1, 2, 3, 8} {
		for _, server := range []int{0, 1, servers - 1} {
			if server >= servers {
				continue
			}
			for _, l := range ledgersAt(server, servers) {
				m := begun(server, servers, 1).with(0, l, copyOf(4))
				for _, r := range recordsFor(l) {
					next := m.clone()
					err := wantAsTold(t, fmt.Sprintf("%d of %d, %v", server, servers, l), stateOf(t, m), &next, r)
					if err == api.OK {
						taken[fmt.Sprintf("kind %d in phase %d", r.Kind, l.Phase)]++
					} else {
						refused[err]++
					}
				}
			}
		}
	}
	wantNum(t, "kinds and phases that go together", len(taken), 10)
	for _, err := range []api.Errno{api.ErrArg, api.ErrLedgerPhase, api.ErrLedgerEpoch, api.ErrLedgerPeer, api.ErrTabOp, api.ErrShardOld, api.ErrShardForm} {
		wantBool(t, fmt.Sprint("error ", err, " was met"), refused[err] > 100, true)
	}
}

// P17.2: what each record that is taken makes of the ledger and of the copy, written out.
func TestTakenRecordsWrittenOut(t *testing.T) {
	was, other := copyOf(4), copyOf(7)
	for _, c := range []struct {
		from   api.Ledger
		r      api.Record
		to     api.Ledger
		copied []byte
	}{
		{owned(0, 1), offer(2, 0), offered(1, 0), was},
		{owned(5, 1), offer(2, 2), offered(6, 2), was},
		{owned(maxEpoch-2, 1), offer(2, 2), offered(maxEpoch-1, 2), was},
		{offered(6, 2), plain(api.RecCancel, 2), owned(7, 1), was},
		{offered(maxEpoch-1, 2), plain(api.RecCancel, 2), owned(maxEpoch, 1), was},
		{offered(6, 2), plain(api.RecCommit, 2), committed(6, 2), was},
		{committed(6, 2), plain(api.RecRelease, 2), released(6, 2), nil},
		{released(6, 2), install(2, 7, 0, other), installed(7, 0), other},
		{released(6, 2), install(2, maxEpoch-1, 2, other), installed(maxEpoch-1, 2), other},
		{installed(7, 0), install(2, 8, 2, other), installed(8, 2), other},
		{installed(7, 0), plain(api.RecOwn, 2), owned(7, 1), was},
		{installed(7, 0), plain(api.RecForget, 2), released(7, 0), nil},
	} {
		m := begun(1, 3, 3).with(2, c.from, was)
		s := stateOf(t, m)
		wantTaken(t, s, c.r)
		wantState(t, short(c.r), s, m.with(2, c.to, c.copied))
	}
	m := begun(1, 3, 2)
	s := made(t, 1, 3, 2)
	wantTaken(t, s, install(0, 1, 2, other))
	wantState(t, "Install of an Absent one", s, m.with(0, installed(1, 2), other))
}

// P17.2, P17.3: there is no such shard, whatever else the record is.
func TestNoSuchShard(t *testing.T) {
	for _, shards := range []int{1, 2, 7, maxShards} {
		s := made(t, 1, 3, shards)
		for _, shard := range append(farNumbers(), -2, -1, shards, shards+1, maxShards, maxShards+1) {
			for kind := -1; kind <= 10; kind++ {
				wantRefused(t, s, plain(kind, shard), api.ErrStateShard)
				wantRefused(t, s, api.Record{Kind: kind, Shard: shard, Epoch: 1, Peer: 2, Seq: 1, Op: put("a", "1"), Copy: newCopy()}, api.ErrStateShard)
			}
		}
		wantState(t, "behind them all", s, begun(1, 3, shards))
	}
}

// P17.2, P0.2: where two errors could be told, the one that comes first. The state is of server 1 out of 3.
func TestWhichErrorComesFirst(t *testing.T) {
	full := begun(1, 3, 1).with(0, owned(1, 1), copyOfSize(maxCopy, maxRev))
	at := func(l api.Ledger) telling { return begun(1, 3, 1).with(0, l, copyAt(maxRev)) }
	last := at(owned(maxEpoch-1, 1))
	long := put("k", text(maxValue, 1))
	for what, c := range map[string]struct {
		m      telling
		r      api.Record
		wanted api.Errno
	}{
		"no shard, no kind":                   {at(released(5, 0)), api.Record{Kind: 9, Shard: 1, Peer: 9}, api.ErrStateShard},
		"no shard, wrong phase, epoch, copy":  {at(owned(5, 1)), install(-1, 0, 9, nil), api.ErrStateShard},
		"no kind, all else wrong":             {at(released(5, 0)), api.Record{Kind: 0, Epoch: -1, Peer: 9, Client: 99, Copy: []byte{1}}, api.ErrArg},
		"phase ahead of op":                   {at(offered(5, 0)), write(0, 0, 1, get("a")), api.ErrLedgerPhase},
		"phase ahead of client and seq":       {at(installed(5, 0)), write(0, 16, 0, put("a", "")), api.ErrLedgerPhase},
		"phase ahead of an own seq":           {at(committed(5, 0)), write(0, 3, 5, put("a", "")), api.ErrLedgerPhase},
		"phase ahead of peer":                 {at(offered(5, 0)), offer(0, 1), api.ErrLedgerPhase},
		"phase ahead of a peer beyond":        {at(committed(5, 0)), offer(0, 3), api.ErrLedgerPhase},
		"phase ahead of epoch, peer and copy": {at(owned(5, 1)), install(0, 0, 1, nil), api.ErrLedgerPhase},
		"phase ahead of the copy":             {at(committed(5, 0)), install(0, 9, 0, nil), api.ErrLedgerPhase},
		"an offer's epoch ahead of its peer":  {last, offer(0, 1), api.ErrLedgerEpoch},
		"an offer's epoch, a peer beyond":     {last, offer(0, 3), api.ErrLedgerEpoch},
		"epoch ahead of peer":                 {at(released(5, 0)), install(0, 5, 1, newCopy()), api.ErrLedgerEpoch},
		"epoch ahead of a peer beyond":        {at(released(5, 0)), install(0, maxEpoch, 3, newCopy()), api.ErrLedgerEpoch},
		"epoch ahead of the copy":             {at(released(5, 0)), install(0, 5, 0, nil), api.ErrLedgerEpoch},
		"peer ahead of the copy":              {at(released(5, 0)), install(0, 6, 1, nil), api.ErrLedgerPeer},
		"a peer beyond ahead of the copy":     {at(released(5, 0)), install(0, 6, 3, nil), api.ErrLedgerPeer},
		"a peer far beyond, and the copy":     {at(installed(5, 0)), install(0, 6, 8, nil), api.ErrLedgerPeer},
		"op ahead of client":                  {at(owned(5, 1)), write(0, 16, 6, get("a")), api.ErrTabOp},
		"op ahead of seq":                     {at(owned(5, 1)), write(0, 3, 0, put("", "")), api.ErrTabOp},
		"op ahead of an older seq":            {at(owned(5, 1)), write(0, 3, 4, seek("a")), api.ErrTabOp},
		"op ahead of the own seq":             {at(owned(5, 1)), write(0, 3, 5, get("a")), api.ErrTabOp},
		"op ahead of the end":                 {at(owned(5, 1)), write(0, 3, 6, get("a")), api.ErrTabOp},
		"client ahead of the end":             {at(owned(5, 1)), write(0, 16, 6, put("a", "")), api.ErrArg},
		"seq ahead of the end":                {at(owned(5, 1)), write(0, 3, maxSeq+1, put("a", "")), api.ErrArg},
		"an older seq ahead of the end":       {at(owned(5, 1)), write(0, 3, 4, put("a", "")), api.ErrShardOld},
		"the own seq ahead of the end":        {at(owned(5, 1)), write(0, 3, 5, put("a", "")), api.ErrShardOld},
		"the end":                             {at(owned(5, 1)), write(0, 3, 6, put("a", "")), api.ErrTabEnd},
		"the end ahead of the room":           {full, write(0, 3, 6, long), api.ErrTabEnd},
	} {
		next := c.m.clone()
		wantErr(t, what+", as told", wantAsTold(t, what, stateOf(t, c.m), &next, c.r), c.wanted)
		wantRefused(t, stateOf(t, c.m), c.r, c.wanted)
	}
}

// P17.2: a peer that the ledger would take, but that is none of the servers, for each number of servers.
func TestPeersBeyond(t *testing.T) {
	for servers := 1; servers <= maxServers; servers++ {
		for server := range servers {
			giver := begun(server, servers, 1).with(0, owned(3, server), copyOf(2))
			taker := begun(server, servers, 1)
			if taker.copies[0] != nil { // a home can't be Absent: let it have come and gone
				taker = taker.with(0, released(2, (server+1)%servers), nil)
			}
			for peer := -1; peer <= maxServers+1; peer++ {
				wanted := api.ErrLedgerPeer
				if peer >= 0 && peer < servers && peer != server {
					wanted = api.OK
				}
				next := giver.clone()
				wantErr(t, "Offer", wantAsTold(t, "Offer", stateOf(t, giver), &next, offer(0, peer)), wanted)
				if servers == 1 {
					continue // there is no other server to which it could have gone
				}
				next = taker.clone()
				wantErr(t, "Install", wantAsTold(t, "Install", stateOf(t, taker), &next, install(0, 3, peer, copyOf(2))), wanted)
			}
		}
	}
}

// P17.2: of a record just those fields count that its kind names.
func TestFieldsThatDoNotCount(t *testing.T) {
	m := mixed()
	junk := api.Record{Epoch: -7, Peer: 99, Client: -3, Seq: 1 << 50, Op: api.Op{Kind: 77, Rev: -1}, Copy: []byte{9}}
	with := func(r, fields api.Record) api.Record {
		switch r.Kind {
		case api.RecWrite:
			fields.Client, fields.Seq, fields.Op = r.Client, r.Seq, r.Op
		case api.RecOffer:
			fields.Peer = r.Peer
		case api.RecInstall:
			fields.Epoch, fields.Peer, fields.Copy = r.Epoch, r.Peer, r.Copy
		}
		fields.Kind, fields.Shard = r.Kind, r.Shard
		return fields
	}
	for _, r := range []api.Record{
		write(2, 0, 50, put("a", "1")), offer(2, 0), plain(api.RecCancel, 1), plain(api.RecCommit, 1), plain(api.RecRelease, 3),
		plain(api.RecOwn, 4), plain(api.RecForget, 4), install(0, 1, 2, copyOf(2)), install(4, 201, 2, copyOf(2)), install(5, 70001, 0, copyOf(2)),
	} {
		first, second := m.clone(), m.clone()
		wantErr(t, short(r), wantAsTold(t, "as it is", stateOf(t, m), &first, r), api.OK)
		wantErr(t, short(r), wantAsTold(t, "with other fields", stateOf(t, m), &second, with(r, junk)), api.OK)
		wantBytes(t, short(r), second.form(), first.form())
	}
}
