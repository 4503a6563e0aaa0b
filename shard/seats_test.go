package shard_test

import (
	"fmt"
	"testing"

	"haulage/api"
	"haulage/shard"
)

// P14.4: Seat and Seats of a shard without any.
func TestNoSeats(t *testing.T) {
	for _, s := range []*shard.Shard{shard.New(), shardOf(t, tell(7, row("a", "1", 3)))} {
		wantNum(t, "how many seats", len(s.Seats()), 0)
		for client := -3; client < 20; client++ {
			got, ok := s.Seat(client)
			wantBool(t, "Seat", ok, false)
			if toldSeats([]api.Seat{got}) != toldSeats([]api.Seat{{}}) {
				t.Fatalf("Seat(%d): %v", client, got)
			}
		}
	}
}

// P14.4: clients that are none have no seat, at all ints.
func TestSeatOfNoClient(t *testing.T) {
	s := allSeated(t)
	for _, client := range []int{-1, -16, -1 << 63, 16, 17, 32, 256, 1 << 32, 1<<32 + 1, 1<<63 - 1} {
		got, ok := s.Seat(client)
		wantBool(t, fmt.Sprintf("Seat(%d)", client), ok, false)
		if toldSeats([]api.Seat{got}) != toldSeats([]api.Seat{{}}) {
			t.Fatalf("Seat(%d): %v", client, got)
		}
	}
}

// allSeated is a shard to which all clients have written, the greatest first.
func allSeated(t *testing.T) *shard.Shard {
	t.Helper()
	s := shard.New()
	for client := maxClients - 1; client >= 0; client-- {
		_, did, err := s.Do(client, 10+client, put("k", fmt.Sprint(client)))
		wantErr(t, "Do", err, api.OK)
		wantBool(t, "done now", did, true)
	}
	return s
}

// P14.4: one seat, of each client.
func TestOneSeat(t *testing.T) {
	for client := range maxClients {
		s := shard.New()
		wantDo(t, s, client, 3, put("a", "1"), yes("", "", 0, 1), true)
		wantShard(t, "one seat", s, tell(1, row("a", "1", 1)).with(seat(client, 3, yes("", "", 0, 1))))
		wantDo(t, s, client, 4, put("a", "2"), yes("a", "1", 1, 2), true)
		wantShard(t, "one seat, later", s, tell(2, row("a", "2", 2)).with(seat(client, 4, yes("a", "1", 1, 2))))
	}
}

// P14.4: all seats, by rising clients whoever came first.
func TestAllSeats(t *testing.T) {
	s := allSeated(t)
	m := tell(16, row("k", "0", 16)).with(seat(15, 25, yes("", "", 0, 1)))
	for client := range 15 {
		at := 16 - client
		m = m.with(seat(client, 10+client, yes("k", fmt.Sprint(client+1), at-1, at)))
	}
	wantShard(t, "all seats", s, m)
	wantNum(t, "how many seats", len(s.Seats()), maxClients)
}

// P14.4: Rows, Rev, Len and Size as rows come and go.
func TestRowsComeAndGo(t *testing.T) {
	s, m := shard.New(), tell(0)
	for i, op := range []api.Op{put("b", "1"), put("a", ""), put("c", text(256, 1)), del("b"), del("b"), swap("a", "x", 2), swap("a", "y", 2), put(text(64, 1), "z"), del("a"), del("c"), del(text(64, 1))} {
		wantErr(t, "Do", wantAsTold(t, "a row", s, &m, i%3, 1+i, op), api.OK)
		wantShard(t, fmt.Sprint("behind write ", i), s, m)
	}
	wantNum(t, "Len", s.Len(), 0)
	wantNum(t, "Rev", s.Rev(), 11)
}
