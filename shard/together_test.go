package shard_test

import (
	"fmt"
	"math/rand"
	"testing"

	"haulage/api"
	"haulage/shard"
	"haulage/table"
)

// P14.2 to P14.5: scripts by dice, in lockstep with the second telling.
func TestAsTold(t *testing.T) {
	dice := rand.New(rand.NewSource(14))
	seen := map[api.Errno]int{}
	for round := range 40 {
		s, m := shard.New(), tell(0)
		for step := range 150 {
			client, seq := someRequest(dice, m)
			what := fmt.Sprintf("round %d, step %d", round, step)
			seen[wantAsTold(t, what, s, &m, client, seq, someOp(dice, m.rev))]++
			wantBytes(t, what, s.Export(), m.form())
			if step%10 == 0 {
				wantShard(t, what, s, m)
			}
		}
		wantShard(t, "behind a script", s, m)
	}
	for _, err := range []api.Errno{api.OK, api.ErrArg, api.ErrTabOp, api.ErrShardOld} {
		if seen[err] < 100 {
			t.Fatalf("error %d came only %d times", err, seen[err])
		}
	}
}

// request is a client and its seq.
type request struct{ client, seq int }

// P14.7: each write that is done has a revision of its own; said again it is answered as it was, as long as it is its client's last, and is ErrShardOld then; nothing else changes anything.
func TestOnce(t *testing.T) {
	dice := rand.New(rand.NewSource(147))
	for range 20 {
		s := shard.New()
		answers := map[request]api.Answer{}
		last := map[int]int{}
		done := 0
		for range 120 {
			client, seq := dice.Intn(4)*5, 1+dice.Intn(60)
			op := someOp(dice, s.Rev())
			before, root := s.Export(), s.Root()
			a, did, err := s.Do(client, seq, op)
			if did {
				done++
				wantErr(t, "a write that is done", err, api.OK)
				wantNum(t, "At of a write that is done", a.At, done)
				answers[request{client, seq}] = a
				last[client] = seq
			} else {
				wantBytes(t, "Export behind what does nothing", s.Export(), before)
				wantMark(t, "Root behind what does nothing", s.Root(), root)
			}
			wantNum(t, "Rev", s.Rev(), done)
			wantSaidAgain(t, s, answers, last, someOp(dice, s.Rev()))
		}
		if done < 10 {
			t.Fatalf("only %d writes were done", done)
		}
	}
}

// wantSaidAgain says all requests again whose writes were done, with another op.
func wantSaidAgain(t *testing.T, s *shard.Shard, answers map[request]api.Answer, last map[int]int, op api.Op) {
	t.Helper()
	before, root := s.Export(), s.Root()
	for r, wanted := range answers {
		a, did, err := s.Do(r.client, r.seq, op)
		wantBool(t, "said again", did, false)
		switch {
		case !table.Right(op):
			wantErr(t, "said again, but not right", err, api.ErrTabOp)
		case last[r.client] > r.seq:
			wantErr(t, "said again behind a further one", err, api.ErrShardOld)
		default:
			wantErr(t, "said again", err, api.OK)
			if told(a) != told(wanted) {
				t.Fatalf("said again: %s, want %s", told(a), told(wanted))
			}
		}
	}
	wantBytes(t, "Export behind what was said again", s.Export(), before)
	wantMark(t, "Root behind what was said again", s.Root(), root)
}

// P14.8: the answers of writes that are done, and of reads, are those of a table that does the same writes.
func TestAsTheTable(t *testing.T) {
	dice := rand.New(rand.NewSource(148))
	for range 20 {
		s, m, tab := shard.New(), tell(0), table.New()
		writes, reads := 0, 0
		for range 200 {
			client, seq := someRequest(dice, m)
			op := someOp(dice, m.rev)
			later := seq > m.seats[client].Seq
			m.do(client, seq, op)
			a, did, err := s.Do(client, seq, op)
			if err != api.OK || !did && !(isRead(op) && later) {
				continue
			}
			wanted, err := tab.Do(op)
			wantErr(t, "the table", err, api.OK)
			if told(a) != told(wanted) {
				t.Fatalf("%s, and the table: %s", told(a), told(wanted))
			}
			if did {
				writes++
			} else {
				reads++
			}
			if toldRows(s.Rows()) != toldRows(tab.Rows()) || s.Rev() != tab.Rev() || s.Len() != tab.Len() {
				t.Fatalf("rows %s, and the table's %s", toldRows(s.Rows()), toldRows(tab.Rows()))
			}
		}
		if writes < 50 || reads < 10 {
			t.Fatalf("only %d writes and %d reads", writes, reads)
		}
	}
}

// P14.9: what Import makes of Export has the same Export, Root and Size, and answers everything alike from then on.
func TestItMoves(t *testing.T) {
	dice := rand.New(rand.NewSource(149))
	for range 12 {
		s, m := shard.New(), tell(0)
		for step := range 100 {
			client, seq := someRequest(dice, m)
			op := someOp(dice, m.rev)
			m.do(client, seq, op)
			s.Do(client, seq, op)
			moved := imported(t, s.Export())
			wantBytes(t, "Export", moved.Export(), s.Export())
			wantNum(t, "Size", moved.Size(), s.Size())
			wantMark(t, "Root", moved.Root(), s.Root())
			wantShard(t, "moved", moved, m)
			if step%10 == 0 {
				wantAlike(t, dice, moved, s.Copy(), m.clone())
			}
			s = moved
		}
	}
}

// wantAlike asks two shards the same, by dice.
func wantAlike(t *testing.T, dice *rand.Rand, a, b *shard.Shard, m telling) {
	t.Helper()
	a = a.Copy()
	for range 40 {
		client, seq := someRequest(dice, m)
		op := someOp(dice, m.rev)
		m.do(client, seq, op)
		size, why := a.After(client, seq, op)
		size2, why2 := b.After(client, seq, op)
		wantErr(t, "After", why, why2)
		wantNum(t, "After", size, size2)
		x, did, err := a.Do(client, seq, op)
		y, did2, err2 := b.Do(client, seq, op)
		wantErr(t, "Do", err, err2)
		wantBool(t, "Do", did, did2)
		if told(x) != told(y) {
			t.Fatalf("Do: %s and %s", told(x), told(y))
		}
		if err == api.OK {
			wantNum(t, "After and Size", size, a.Size())
		}
		wantBytes(t, "Export", a.Export(), b.Export())
		wantNum(t, "Size and Export", a.Size(), len(a.Export()))
	}
	wantMark(t, "Root", a.Root(), b.Root())
}

// P14.7, P14.9: a write is answered again wherever the shard has moved in the meantime.
func TestSaidAgainBehindMoves(t *testing.T) {
	s := shard.New()
	wantDo(t, s, 3, 1, put("a", "1"), yes("", "", 0, 1), true)
	wantDo(t, s, 3, 2, swap("a", "2", 1), yes("a", "1", 1, 2), true)
	for range 3 {
		s = imported(t, s.Export())
		wantDo(t, s, 3, 2, swap("a", "2", 1), yes("a", "1", 1, 2), false)
		wantRefused(t, s, 3, 1, put("a", "1"), api.ErrShardOld)
	}
	wantDo(t, s, 3, 3, get("a"), yes("a", "2", 2, 2), false)
	wantNum(t, "Rev", s.Rev(), 2)
}

// P14.1: what a script makes of a new shard is sound: its form is that of a sound shard, by the words.
func TestWhatScriptsMakeIsSound(t *testing.T) {
	dice := rand.New(rand.NewSource(1410))
	for range 10 {
		s, m := shard.New(), tell(0)
		for range 150 {
			client, seq := someRequest(dice, m)
			op := someOp(dice, m.rev)
			m.do(client, seq, op)
			s.Do(client, seq, op)
			if !isForm(s.Export()) {
				t.Fatalf("not sound: %v", s.Export())
			}
		}
	}
}
