package shard_test

import (
	"fmt"
	"testing"

	"haulage/api"
	"haulage/shard"
)

// seated is a shard with rows of which a client with the seq 5 has its last write, and others theirs.
func seated(client int) telling {
	m := tell(9, row("a", "1", 1), row("b", "", 7), row("c", text(200, 1), 3))
	return m.with(seat((client+1)%maxClients, 9, no("", "", 0, 2)), seat(client, 5, yes("b", "old", 4, 7)))
}

// P14.2, P14.3: each kind of op, right and not right, at a client without a seat, and with a lower, the same and a greater last seq.
func TestDoOfEachKind(t *testing.T) {
	for client := range maxClients {
		ops := append(oneOfEach("a"), oneOfEach("none")...)
		ops = append(append(ops, swap("b", "x", 7), swap("c", "", 3)), wrongOps()...)
		for i, op := range ops {
			for _, who := range []int{client, (client + 2) % maxClients} {
				for _, seq := range []int{1, 4, 5, 6, 7, 127, 128, maxSeq} {
					m := seated(client)
					s := shardOf(t, m)
					wantAsTold(t, fmt.Sprintf("op %d", i), s, &m, who, seq, op)
					if i%7 == client%7 {
						wantShard(t, "behind it", s, m)
					} else {
						wantBytes(t, "behind it", s.Export(), m.form())
					}
				}
			}
		}
	}
}

// P14.2: which answers these are, in plain words.
func TestDoInPlainWords(t *testing.T) {
	m := seated(2)
	s := shardOf(t, m)
	for _, op := range oneOfEach("a") {
		wantRefused(t, s, 2, 4, op, api.ErrShardOld)
		wantDo(t, s, 2, 5, op, yes("b", "old", 4, 7), false)
	}
	for _, op := range wrongOps() {
		for _, seq := range []int{4, 5, 6} {
			wantRefused(t, s, 2, seq, op, api.ErrTabOp)
		}
	}
	wantDo(t, s, 2, 6, get("a"), yes("a", "1", 1, 9), false)
	wantDo(t, s, 2, 6, seek("aa"), yes("b", "", 7, 9), false)
	wantDo(t, s, 2, 6, get("none"), no("", "", 0, 9), false)
	wantShard(t, "behind what does nothing", s, m)
	wantDo(t, s, 2, 6, put("a", "2"), yes("a", "1", 1, 10), true)
	wantDo(t, s, 2, 6, del("a"), yes("a", "1", 1, 10), false)
	wantDo(t, s, 2, 7, del("a"), yes("a", "2", 10, 11), true)
	wantDo(t, s, 2, 7, put("a", "3"), yes("a", "2", 10, 11), false)
	wantDo(t, s, 2, 9, swap("b", "x", 6), no("b", "", 7, 12), true)
	wantDo(t, s, 2, 10, swap("b", "x", 7), yes("b", "", 7, 13), true)
	wantRefused(t, s, 2, 9, get("a"), api.ErrShardOld)
	wantShard(t, "behind all", s, tell(13, row("b", "x", 13), row("c", text(200, 1), 3)).with(seat(3, 9, no("", "", 0, 2)), seat(2, 10, yes("b", "", 7, 13))))
}

// P14.2: clients at their bounds and beyond; a client that is none has no seat, either.
func TestClients(t *testing.T) {
	for _, op := range []api.Op{put("a", "1"), del("a"), swap("a", "1", 0), get("a"), seek("")} {
		for _, client := range []int{-1, -2, -16, -1 << 63, 16, 17, 255, 256, 1 << 32, 1<<32 + 3, 1<<63 - 1} {
			wantRefused(t, exampleShard(t), client, 5, op, api.ErrArg)
		}
		for _, client := range []int{0, 1, 14, 15} {
			s := shard.New()
			_, did, err := s.Do(client, 5, op)
			wantErr(t, "a client", err, api.OK)
			wantBool(t, "a client's write", did, !isRead(op))
			_, has := s.Seat(client)
			wantBool(t, "a client's seat", has, !isRead(op))
		}
	}
}

// P14.2: seqs at their bounds and beyond.
func TestSeqs(t *testing.T) {
	for _, op := range []api.Op{put("a", "1"), del("a"), swap("a", "1", 0), get("a"), seek("")} {
		for _, seq := range []int{0, -1, -2, -maxSeq, -1 << 63, maxSeq + 1, maxSeq + 2, 1 << 31, 1<<32 + 1, 1<<63 - 1} {
			wantRefused(t, shard.New(), 4, seq, op, api.ErrArg)
			wantRefused(t, exampleShard(t), 3, seq, op, api.ErrArg)
		}
		for _, seq := range []int{1, 2, 127, 128, maxSeq - 1, maxSeq} {
			m := tell(0)
			s := shard.New()
			wantErr(t, "a seq", wantAsTold(t, "a seq", s, &m, 4, seq, op), api.OK)
			wantShard(t, "behind a seq", s, m)
		}
	}
}

// P14.2: behind MaxSeq a client's write is answered again, and no other one of it can come.
func TestLastSeq(t *testing.T) {
	s := shard.New()
	wantDo(t, s, 1, maxSeq, put("a", "1"), yes("", "", 0, 1), true)
	wantDo(t, s, 1, maxSeq, put("a", "2"), yes("", "", 0, 1), false)
	wantRefused(t, s, 1, maxSeq-1, put("a", "2"), api.ErrShardOld)
	wantRefused(t, s, 1, maxSeq+1, put("a", "2"), api.ErrArg)
	wantDo(t, s, 2, 1, put("a", "2"), yes("a", "1", 1, 2), true)
}

// P14.2: a seq need not follow the last one at once, and each client has its own.
func TestSeqsLeap(t *testing.T) {
	m := tell(0)
	s := shard.New()
	for i, seq := range []int{1, 2, 5, 6, 100, 127, 128, 16383, 16384, 1 << 21, 1 << 28, maxSeq} {
		for client := range maxClients {
			wantErr(t, "a new one", wantAsTold(t, "a new one", s, &m, client, seq, put(fmt.Sprint("k", i), fmt.Sprint(client))), api.OK)
		}
		wantShard(t, "behind a row of them", s, m)
	}
	wantNum(t, "Rev", s.Rev(), 12*maxClients)
}

// P14.2: a read with a new seq makes no seat, and the same seq may be a write's then.
func TestReadsMakeNoSeat(t *testing.T) {
	s := shard.New()
	for range 3 {
		wantDo(t, s, 7, 4, get("a"), no("", "", 0, 0), false)
		wantDo(t, s, 7, 9, seek(""), no("", "", 0, 0), false)
	}
	wantShard(t, "behind reads", s, tell(0))
	wantDo(t, s, 7, 4, put("a", "1"), yes("", "", 0, 1), true)
	wantDo(t, s, 7, 9, get("a"), yes("a", "1", 1, 1), false)
	wantDo(t, s, 7, 5, get("a"), yes("a", "1", 1, 1), false)
	wantDo(t, s, 7, 4, get("a"), yes("", "", 0, 1), false)
	wantShard(t, "behind it all", s, tell(1, row("a", "1", 1)).with(seat(7, 4, yes("", "", 0, 1))))
}

// P14.2: a write that is not Done is done all the same: it has a revision, and a seat.
func TestWritesThatChangeNoRow(t *testing.T) {
	s := shard.New()
	wantDo(t, s, 0, 1, del("a"), no("", "", 0, 1), true)
	wantDo(t, s, 0, 1, put("a", "1"), no("", "", 0, 1), false)
	wantDo(t, s, 0, 2, swap("a", "1", 9), no("", "", 0, 2), true)
	wantDo(t, s, 1, 1, put("a", "1"), yes("", "", 0, 3), true)
	wantDo(t, s, 0, 3, swap("a", "2", 2), no("a", "1", 3, 4), true)
	wantShard(t, "behind them", s, tell(4, row("a", "1", 3)).with(seat(0, 3, no("a", "1", 3, 4)), seat(1, 1, yes("", "", 0, 3))))
}

// P14.2: behind a write that is refused the same seq may be said again, and is new.
func TestRefusedWritesSaidAgain(t *testing.T) {
	s := shard.New()
	wantRefused(t, s, 5, 3, put("", "1"), api.ErrTabOp)
	wantDo(t, s, 5, 3, put("a", "1"), yes("", "", 0, 1), true)
	wantRefused(t, s, 5, 4, put("a", text(257, 1)), api.ErrTabOp)
	wantDo(t, s, 5, 4, put("a", text(256, 1)), yes("a", "1", 1, 2), true)
	wantRefused(t, s, 5, 2, put("a", "2"), api.ErrShardOld)
	wantDo(t, s, 5, 5, put("a", "2"), yes("a", text(256, 1), 1+1, 3), true)
}
