package shard_test

import (
	"testing"

	"haulage/api"
	"haulage/shard"
)

// P14.6, P14.1, P0.1: each call on a nil shard.
func TestNil(t *testing.T) {
	var s *shard.Shard
	for _, op := range append(oneOfEach("a"), wrongOps()...) {
		for _, client := range []int{-1, 0, 15, 16} {
			for _, seq := range []int{-1, 0, 1, maxSeq, maxSeq + 1} {
				wantRefused(t, s, client, seq, op, api.ErrNil)
			}
		}
	}
	wantBool(t, "a copy", s.Copy() != nil, false)
	wantNum(t, "Export", len(s.Export()), 0)
	wantNum(t, "Seats", len(s.Seats()), 0)
	wantNum(t, "Rows", len(s.Rows()), 0)
	wantNum(t, "Rev", s.Rev(), 0)
	wantNum(t, "Len", s.Len(), 0)
	wantNum(t, "Size", s.Size(), 0)
	wantMark(t, "Root", s.Root(), 0)
	for client := -1; client <= 16; client++ {
		got, ok := s.Seat(client)
		wantBool(t, "Seat", ok, false)
		if toldSeats([]api.Seat{got}) != toldSeats([]api.Seat{{}}) {
			t.Fatalf("Seat(%d): %v", client, got)
		}
	}
}

// P0.1: a shard that New did not make ends each call without a panic, and is one without rows and seats.
func TestShardOfNothing(t *testing.T) {
	s, m := &shard.Shard{}, tell(0)
	wantShard(t, "a shard of nothing", s, m)
	wantShard(t, "its copy", s.Copy(), m)
	for i, op := range oneOfEach("a") {
		wantAsTold(t, "a shard of nothing", s, &m, 1, 1+i, op)
	}
	wantShard(t, "behind ops", s, m)
}
