package state_test

import (
	"fmt"
	"math/rand"
	"testing"

	"haulage/api"
	"haulage/state"
)

// someWrite is a Write by dice for a shard: its seq is near the client's last one most of the time, its op right most of the time.
func someWrite(dice *rand.Rand, shard, seq int) api.Record {
	keys := []string{"a", "b", "aa", "\x00", "\xff", text(maxKey, 1)}
	key, value := keys[dice.Intn(len(keys))], text(dice.Intn(9), dice.Intn(9))
	ops := []api.Op{put(key, value), put(key, text(dice.Intn(maxValue+1), 3)), del(key), swap(key, value, 0), swap(key, value, dice.Intn(20)), get(key), seek(key)}
	op := ops[dice.Intn(len(ops))]
	if dice.Intn(15) == 0 {
		op = wrongOps()[dice.Intn(len(wrongOps()))]
	}
	client := dice.Intn(4)
	switch dice.Intn(40) {
	case 0:
		client = []int{-1, maxClients, 1 << 40}[dice.Intn(3)]
	case 1:
		seq = []int{0, -1, maxSeq + 1, maxSeq}[dice.Intn(4)]
	}
	return write(shard, client, seq, op)
}

// someRecord is a record by dice that a state with this ledger takes most of the time; offers is what others have to give of this shard.
func someRecord(dice *rand.Rand, m telling, shard, seq int, offers [][]byte) api.Record {
	l := m.ledgers[shard]
	peer := dice.Intn(m.servers)
	if dice.Intn(10) == 0 {
		return api.Record{Kind: dice.Intn(10), Shard: shard - dice.Intn(2), Epoch: l.Epoch + dice.Intn(3) - 1, Peer: dice.Intn(10) - 1, Client: dice.Intn(3), Seq: seq, Op: put("a", "x"), Copy: offers[dice.Intn(len(offers))]}
	}
	switch l.Phase {
	case api.Owned:
		if dice.Intn(8) == 0 {
			return offer(shard, peer)
		}
		return someWrite(dice, shard, seq)
	case api.Offered:
		return plain([]int{api.RecCancel, api.RecCommit}[dice.Intn(2)], shard)
	case api.Committed:
		return plain(api.RecRelease, shard)
	case api.Installed:
		if dice.Intn(3) > 0 {
			return plain([]int{api.RecOwn, api.RecForget}[dice.Intn(2)], shard)
		}
	}
	return install(shard, l.Epoch+dice.Intn(4), peer, offers[dice.Intn(len(offers))])
}

// P17.2 to P17.11: runs of records of all kinds on states of many servers, in lockstep with the second telling; each state is read back now and then, and goes on beside the first.
func TestRunsAsTold(t *testing.T) {
	taken, refused := map[int]int{}, map[api.Errno]int{}
	for run := range 60 {
		dice := rand.New(rand.NewSource(int64(run)))
		servers := 1 + dice.Intn(maxServers)
		server, shards := dice.Intn(servers), 1+dice.Intn(5)
		s, m := made(t, server, servers, shards), begun(server, servers, shards)
		twin := read(t, s.Bytes())
		offers := [][]byte{newCopy(), copyOf(5), copyAt(30, rowForm("a", "1", 3)), copyAt(maxRev - 2), copyOf(7), {1}}
		for step := range 250 {
			what := fmt.Sprintf("run %d, step %d", run, step)
			shard := dice.Intn(shards)
			r := someRecord(dice, m, shard, 1+step/3+dice.Intn(3), offers)
			before, twinned := m.clone(), m.clone()
			err := wantAsTold(t, what, s, &m, r)
			wantErr(t, what+": the twin", wantAsTold(t, what+": the twin", twin, &twinned, r), err)
			if err == api.OK {
				taken[r.Kind]++
				wantRecordHolds(t, what, before, m, r)
			} else {
				refused[err]++
			}
			wantPeekAsTold(t, s, m, shard, dice.Intn(4), 1+step/3, oneOfEach("a")[dice.Intn(9)])
			if dice.Intn(25) == 0 {
				wantState(t, what, s, m)
				wantState(t, what+": the twin", twin, m)
				twin = read(t, s.Bytes())
			}
		}
	}
	wantNum(t, "kinds that were taken", len(taken), 8)
	for _, err := range []api.Errno{api.ErrStateShard, api.ErrArg, api.ErrLedgerPhase, api.ErrLedgerEpoch, api.ErrLedgerPeer, api.ErrTabOp, api.ErrTabEnd, api.ErrShardOld, api.ErrShardForm} {
		wantBool(t, fmt.Sprint("error ", err, " was met"), refused[err] > 0, true)
	}
}

// wantRecordHolds asks of a record that was taken what P17.9 to P17.11 say: the state is sound, the form no longer but by a Write or an Install, the other shards as they were, and the copy too, where it must stay.
func wantRecordHolds(t *testing.T, what string, before, m telling, r api.Record) {
	t.Helper()
	wantBool(t, what+": sound", m.isSound(), true)
	if r.Kind != api.RecWrite && r.Kind != api.RecInstall && len(m.form()) > len(before.form()) {
		t.Fatalf("%s: %s makes the form longer", what, short(r))
	}
	for i := range m.ledgers {
		same := m.ledgers[i] == before.ledgers[i] && string(m.copies[i]) == string(before.copies[i])
		if i != r.Shard {
			wantBool(t, what+": another shard is as it was", same, true)
		}
	}
	was := before.ledgers[r.Shard].Phase
	stays := was == api.Offered || was == api.Committed && r.Kind != api.RecRelease || was == api.Owned && r.Kind != api.RecWrite
	if stays {
		wantBytes(t, what+": the copy stays", m.copies[r.Shard], before.copies[r.Shard])
	}
}

// P17.8: what was read back answers the same to everything from then on: each record, each Peek, from each state of a run on.
func TestReadBackGoesOn(t *testing.T) {
	m := mixed()
	for shard := -1; shard <= 7; shard++ {
		for _, r := range recordsOfAllKinds(shard) {
			s := stateOf(t, m)
			s.Apply(r)
			twin := read(t, s.Bytes())
			for other := range 7 {
				for _, next := range []api.Record{write(other, 1, 100, put("a", "1")), write(other, 0, 100, put("a", "1")), plain(api.RecOwn, other), plain(api.RecCancel, other), install(other, 80000, 2, copyOf(2)), offer(other, 0)} {
					wantSame(t, short(r)+"; then "+short(next), s, twin, next)
				}
			}
		}
	}
}

// wantSame hands a record to two states, and asks for the same of both.
func wantSame(t *testing.T, what string, s, twin *state.State, r api.Record) {
	t.Helper()
	n, err := s.After(r)
	m, errTwin := twin.After(r)
	wantErr(t, what+": After", errTwin, err)
	wantNum(t, what+": After", m, n)
	a, did, err := s.Peek(r.Shard, r.Client, r.Seq, r.Op)
	b, didTwin, errTwin := twin.Peek(r.Shard, r.Client, r.Seq, r.Op)
	wantErr(t, what+": Peek", errTwin, err)
	if told(a) != told(b) || did != didTwin {
		t.Fatalf("%s: Peek: %s, %v; the twin's: %s, %v", what, told(a), did, told(b), didTwin)
	}
	a, err = s.Apply(r)
	b, errTwin = twin.Apply(r)
	wantErr(t, what+": Apply", errTwin, err)
	if told(a) != told(b) {
		t.Fatalf("%s: Apply: %s; the twin's: %s", what, told(a), told(b))
	}
	wantBytes(t, what+": Bytes", twin.Bytes(), s.Bytes())
}

// P17.2, P17.9, P17.11: shards go round among servers, each by Offer, Install, Commit, Own and Release, now and then by Cancel and Forget; each write is done once, wherever the shard is, and no write is lost.
func TestShardsGoRound(t *testing.T) {
	const servers, shards = 4, 3
	dice := rand.New(rand.NewSource(17))
	var states []*state.State
	for server := range servers {
		states = append(states, made(t, server, servers, shards))
	}
	writes := [shards]int{}
	for range 300 {
		shard := dice.Intn(shards)
		from := ownerOf(t, states, shard)
		seq := writes[shard] + 1
		wantApply(t, states[from], write(shard, 5, seq, swap("n", fmt.Sprint(seq), lastRev(seq))), answerOf(seq))
		writes[shard]++
		to := (from + 1 + dice.Intn(servers-1)) % servers
		wantTaken(t, states[from], offer(shard, to))
		l, _ := states[from].Ledger(shard)
		copied := states[from].Export(shard)
		wantTaken(t, states[to], install(shard, l.Epoch, from, copied))
		if dice.Intn(4) == 0 {
			wantTaken(t, states[from], plain(api.RecCancel, shard))
			wantTaken(t, states[to], plain(api.RecForget, shard))
			wantLedger(t, states[from], shard, owned(l.Epoch+1, from))
			continue
		}
		wantTaken(t, states[from], plain(api.RecCommit, shard))
		wantTaken(t, states[to], plain(api.RecOwn, shard))
		wantTaken(t, states[from], plain(api.RecRelease, shard))
		wantLedger(t, states[to], shard, owned(l.Epoch, to))
		wantLedger(t, states[from], shard, released(l.Epoch, to))
		wantBytes(t, "the copy behind its way", states[to].Export(shard), copied)
		wantRefused(t, states[to], write(shard, 5, seq, put("n", "again")), api.ErrShardOld)
	}
	for shard := range shards {
		s := states[ownerOf(t, states, shard)]
		n := writes[shard]
		wantPeek(t, s, shard, 5, n+1, get("n"), yes("n", fmt.Sprint(n), n, n), false)
	}
	for _, s := range states {
		wantBytes(t, "there and back", read(t, s.Bytes()).Bytes(), s.Bytes())
	}
}

// ownerOf is the server that has a shard Owned: one alone.
func ownerOf(t *testing.T, states []*state.State, shard int) int {
	t.Helper()
	owner, many := -1, 0
	for server, s := range states {
		if l, _ := s.Ledger(shard); l.Phase == api.Owned {
			owner, many = server, many+1
		}
	}
	wantNum(t, "owners", many, 1)
	return owner
}

// lastRev is the Rev of the row ahead of the write with this seq, and answerOf what that write is answered, each write being a Swap of one row.
func lastRev(seq int) int { return seq - 1 }

func answerOf(seq int) api.Answer {
	if seq == 1 {
		return yes("", "", 0, 1)
	}
	return yes("n", fmt.Sprint(seq-1), seq-1, seq)
}
