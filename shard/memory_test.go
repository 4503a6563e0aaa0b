package shard_test

import (
	"slices"
	"testing"

	"haulage/api"
	"haulage/shard"
)

// spoil writes one byte over a list, and over the room behind it.
func spoil(p []byte) {
	p = p[:cap(p)]
	for i := range p {
		p[i] = 0xEE
	}
}

func spoilAnswer(a api.Answer) {
	spoil(a.Key)
	spoil(a.Value)
}

// roomy is a list with room behind it, and all of that memory.
func roomy(s string) (list, all []byte) {
	all = append([]byte(s), "behind"...)
	return all[:len(s)], all
}

// P14.10, P0.4: an op's Key and Value are neither changed nor kept, the room behind them neither: in no row, and in no seat.
func TestOpsHandedIn(t *testing.T) {
	for _, kind := range []int{api.OpPut, api.OpSwap} {
		for _, n := range []int{0, 1, 30, 256} {
			s := shard.New()
			key, allKey := roomy("b")
			value, allValue := roomy(text(n, 1))
			op := api.Op{Kind: kind, Key: key, Value: value}
			s.After(1, 1, op)
			wantDo(t, s, 1, 1, op, yes("", "", 0, 1), true)
			wantDo(t, s, 1, 1, op, yes("", "", 0, 1), false)
			wantBytes(t, "the key's memory", allKey, []byte("bbehind"))
			wantBytes(t, "the value's memory", allValue, []byte(text(n, 1)+"behind"))
			spoil(key)
			spoil(value)
			m := tell(1, row("b", text(n, 1), 1)).with(seat(1, 1, yes("", "", 0, 1)))
			wantShard(t, "behind it", s, m)
		}
	}
	for _, kind := range []int{api.OpGet, api.OpSeek, api.OpDelete, api.OpPut, api.OpSwap} {
		m := seated(2)
		s := shardOf(t, m)
		key, all := roomy("c")
		op := api.Op{Kind: kind, Key: key}
		s.After(2, 6, op)
		a, _, err := s.Do(2, 6, op)
		wantErr(t, "Do", err, api.OK)
		wantBytes(t, "the key's memory", all, []byte("cbehind"))
		spoil(key)
		wantBytes(t, "the answer's key", a.Key, []byte("c"))
		m.do(2, 6, api.Op{Kind: kind, Key: []byte("c")})
		wantShard(t, "behind it", s, m)
	}
}

// P14.10, P0.4: ops that are refused are not changed either.
func TestRefusedOpsHandedIn(t *testing.T) {
	for _, s := range []*shard.Shard{nil, shard.New(), shardOf(t, atEnd(maxRev))} {
		key, allKey := roomy("")
		value, allValue := roomy(text(300, 1))
		for kind := range 7 {
			for seq := range 3 {
				s.Do(3, seq, api.Op{Kind: kind, Key: key, Value: value, Rev: -1})
				s.After(3, seq, api.Op{Kind: kind, Key: key, Value: value, Rev: -1})
			}
		}
		wantBytes(t, "the key's memory", allKey, []byte("behind"))
		wantBytes(t, "the value's memory", allValue, []byte(text(300, 1)+"behind"))
	}
}

// P14.10, P0.4: the bytes that are imported are neither changed nor kept.
func TestBytesHandedIn(t *testing.T) {
	m := tell(300, someRows()...).with(sixteen()...)
	form := m.form()
	p, all := roomy(string(form))
	s := imported(t, p)
	wantBytes(t, "the memory", all, append(slices.Clone(form), "behind"...))
	spoil(p)
	wantShard(t, "behind it", s, m)
	wrong, all := roomy(string(form[:len(form)-1]))
	wantNotImported(t, "cut off", wrong)
	wantBytes(t, "the memory of what was refused", all, append(slices.Clone(form[:len(form)-1]), "behind"...))
}

// P14.10: what Do answers is new memory, of a write that is done now, of one that is said again, and of a read; the copies know nothing of it either.
func TestAnswersAreNew(t *testing.T) {
	for _, n := range []int{0, 1, 31, 33, 255, 256} {
		for _, op := range []api.Op{get("b"), seek("aa"), put("b", "new"), del("b"), swap("b", "new", 2), swap("b", "new", 1)} {
			m := tell(3, row("a", "0", 1), row("b", text(n, 1), 2), row("c", "1", 3))
			s := shardOf(t, m)
			old := s.Copy()
			was := m.clone()
			wanted, _, _ := m.do(4, 1, op)
			a, _, err := s.Do(4, 1, op)
			wantErr(t, "Do", err, api.OK)
			c := s.Copy()
			spoilAnswer(a)
			wantShard(t, "behind the answer that is spoilt", s, m)
			for range 3 {
				again, _, err := s.Do(4, 1, op)
				wantErr(t, "Do again", err, api.OK)
				if told(again) != told(wanted) {
					t.Fatalf("said again: %s, want %s", told(again), told(wanted))
				}
				spoilAnswer(again)
			}
			wantShard(t, "behind them all", s, m)
			wantShard(t, "the copy", c, m)
			wantShard(t, "the older copy", old, was)
		}
	}
}

// P14.10: the copy and the one that was copied answer by memory of their own.
func TestCopiesAnswerApart(t *testing.T) {
	m := tell(300, someRows()...).with(sixteen()...)
	s := shardOf(t, m)
	c := s.Copy()
	for _, one := range []*shard.Shard{s, c} {
		for client := range maxClients {
			got, _ := one.Seat(client)
			spoilAnswer(got.Answer)
			a, _, _ := one.Do(client, m.seats[client].Seq, get("a"))
			spoilAnswer(a)
		}
		for _, x := range one.Seats() {
			spoilAnswer(x.Answer)
		}
		for _, r := range one.Rows() {
			spoil(r.Key)
			spoil(r.Value)
		}
		spoil(one.Export())
		wantShard(t, "the shard", s, m)
		wantShard(t, "the copy", c, m)
	}
}

// P14.10, P0.4: what Seat and Seats answer is new memory, the list too.
func TestSeatsAreNew(t *testing.T) {
	m := tell(300, someRows()...).with(sixteen()...)
	s := shardOf(t, m)
	for client := range maxClients {
		one, _ := s.Seat(client)
		other, _ := s.Seat(client)
		spoilAnswer(one.Answer)
		if toldSeats([]api.Seat{other}) != toldSeats([]api.Seat{m.seats[client]}) {
			t.Fatalf("Seat(%d) beside one that is spoilt: %v", client, other)
		}
	}
	first, second := s.Seats(), s.Seats()
	for i := range first {
		spoilAnswer(first[i].Answer)
	}
	clear(first[:cap(first)])
	if toldSeats(second) != toldSeats(m.allSeats()) {
		t.Fatalf("Seats beside those that are spoilt: %s", toldSeats(second))
	}
	wantShard(t, "behind it", s, m)
}

// P0.4: no two lists of one answer share any memory.
func TestListsOfOneAnswer(t *testing.T) {
	m := tell(9, row("ab", "ab", 1), row("b", text(64, 1), 2)).with(seat(1, 1, yes("ab", "ab", 1, 2)), seat(2, 1, no("ab", "ab", 1, 3)), seat(5, 1, yes("b", text(64, 1), 1, 4)))
	s := shardOf(t, m)
	for client := range 6 {
		for _, op := range []api.Op{get("ab"), put("ab", "ab"), seek("b")} {
			a, _, _ := s.Copy().Do(client, 1, op)
			value := slices.Clone(a.Value)
			spoil(a.Key)
			wantBytes(t, "Value beside a spoilt Key", a.Value, value)
		}
		x, _ := s.Seat(client)
		key := slices.Clone(x.Answer.Key)
		spoil(x.Answer.Value)
		wantBytes(t, "Key beside a spoilt Value", x.Answer.Key, key)
	}
	seats := s.Seats()
	for i := range seats {
		others := s.Seats()
		spoil(seats[i].Answer.Key)
		wantBytes(t, "Value of that seat", seats[i].Answer.Value, others[i].Answer.Value)
		spoil(seats[i].Answer.Value)
		if toldSeats(seats[i+1:]) != toldSeats(others[i+1:]) {
			t.Fatalf("other seats beside a spoilt one: %s", toldSeats(seats[i+1:]))
		}
	}
	wantShard(t, "behind it", s, m)
}

// P14.10: what Rows and Export answer is new memory.
func TestRowsAndExportAreNew(t *testing.T) {
	m := tell(300, someRows()...).with(sixteen()...)
	s := shardOf(t, m)
	rows := s.Rows()
	for i := range rows {
		spoil(rows[i].Key)
		spoil(rows[i].Value)
	}
	clear(rows[:cap(rows)])
	p, other := s.Export(), s.Export()
	spoil(p)
	wantBytes(t, "Export once more", other, m.form())
	wantShard(t, "behind it", s, m)
}
