package shard_test

import (
	"testing"

	"haulage/api"
	"haulage/shard"
)

// exampleShard is the shard of the chapter's examples, behind their writes.
func exampleShard(t *testing.T) *shard.Shard {
	t.Helper()
	s := shard.New()
	wantDo(t, s, 3, 1, put("a", "1"), yes("", "", 0, 1), true)
	wantDo(t, s, 3, 2, del("a"), yes("a", "1", 1, 2), true)
	wantDo(t, s, 0, 9, swap("a", "5", 1), no("", "", 0, 3), true)
	return s
}

// P14.1, P14.4: the row of a new shard.
func TestExampleNew(t *testing.T) {
	s := shard.New()
	wantBytes(t, "Export", s.Export(), []byte{2, 0, 0, 0})
	wantNum(t, "Size", s.Size(), 4)
	wantShard(t, "a new shard", s, tell(0))
}

// P14.2, P14.4: the rows of Do, one behind the other.
func TestExampleDo(t *testing.T) {
	s := shard.New()
	wantDo(t, s, 3, 1, put("a", "1"), yes("", "", 0, 1), true)
	wantDo(t, s, 3, 1, put("a", "1"), yes("", "", 0, 1), false)
	wantDo(t, s, 3, 1, get("a"), yes("", "", 0, 1), false)
	wantDo(t, s, 3, 2, get("a"), yes("a", "1", 1, 1), false)
	wantDo(t, s, 3, 2, del("a"), yes("a", "1", 1, 2), true)
	wantRefused(t, s, 3, 1, put("a", "1"), api.ErrShardOld)
	wantDo(t, s, 0, 9, swap("a", "5", 1), no("", "", 0, 3), true)
	wanted := []api.Seat{seat(0, 9, no("", "", 0, 3)), seat(3, 2, yes("a", "1", 1, 2))}
	if got := toldSeats(s.Seats()); got != toldSeats(wanted) {
		t.Fatalf("Seats: %s", got)
	}
}

// P14.1: the row of Export, and the way back.
func TestExampleExport(t *testing.T) {
	s := exampleShard(t)
	form := []byte{2, 3, 0, 2, 0, 9, 0, 0, 0, 0, 3, 3, 2, 1, 1, 97, 1, 49, 1, 2}
	wantBytes(t, "Export", s.Export(), form)
	m := tell(3).with(seat(0, 9, no("", "", 0, 3)), seat(3, 2, yes("a", "1", 1, 2)))
	wantShard(t, "the examples'", s, m)
	wantShard(t, "imported", imported(t, form), m)
}

// P14.2: the row of what is refused.
func TestExampleRefused(t *testing.T) {
	s := exampleShard(t)
	wantRefused(t, s, 16, 1, put("a", "1"), api.ErrArg)
	wantRefused(t, s, 0, 0, put("a", "1"), api.ErrArg)
	wantRefused(t, s, 0, 1, api.Op{Kind: 9}, api.ErrTabOp)
}
