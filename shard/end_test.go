package shard_test

import (
	"testing"

	"haulage/api"
)

// writesOf are writes of a key: such as would change its row, and such as would not.
func writesOf(key string) []api.Op {
	return []api.Op{put(key, "9"), put(key, ""), del(key), swap(key, "9", 0), swap(key, "9", 5), swap(key, "9", maxRev)}
}

// atEnd is a shard at a revision near the last one.
func atEnd(rev int) telling {
	return tell(rev, row("a", "1", 5), row("b", "2", rev)).with(seat(3, 8, yes("b", "x", 6, rev)), seat(4, 9, no("", "", 0, 2)))
}

// P14.2, P14.3: at MaxRev each new write is refused, whatever it would change; reads are not, nor is a write that is said again.
func TestEnd(t *testing.T) {
	m := atEnd(maxRev)
	s := shardOf(t, m)
	for _, key := range []string{"a", "b", "c"} {
		for _, op := range writesOf(key) {
			wantRefused(t, s, 3, 9, op, api.ErrTabEnd)
			wantRefused(t, s, 0, 1, op, api.ErrTabEnd)
			wantDo(t, s, 3, 8, op, yes("b", "x", 6, maxRev), false)
			wantAfter(t, s, 3, 8, op, len(m.form()))
			wantDo(t, s, 4, 9, op, no("", "", 0, 2), false)
		}
	}
	wantDo(t, s, 3, 9, get("a"), yes("a", "1", 5, maxRev), false)
	wantDo(t, s, 0, 1, get("c"), no("", "", 0, maxRev), false)
	wantDo(t, s, 0, 1, seek("aa"), yes("b", "2", maxRev, maxRev), false)
	wantAfter(t, s, 0, 1, seek("aa"), len(m.form()))
	wantDo(t, s, 3, 8, get("a"), yes("b", "x", 6, maxRev), false)
	wantShard(t, "behind it all", s, m)
}

// P14.2: the write that reaches MaxRev is done, and no further one.
func TestLastWrite(t *testing.T) {
	for _, op := range writesOf("a") {
		m := atEnd(maxRev - 1)
		s := shardOf(t, m)
		wantErr(t, "the last write", wantAsTold(t, "the last write", s, &m, 3, 9, op), api.OK)
		wantNum(t, "Rev", s.Rev(), maxRev)
		for _, next := range writesOf("a") {
			wantRefused(t, s, 3, 10, next, api.ErrTabEnd)
		}
		wantShard(t, "behind it", s, m)
		wantShard(t, "imported", imported(t, s.Export()), m)
	}
}
