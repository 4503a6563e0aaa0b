package shard_test

import (
	"encoding/binary"
	"fmt"
	"testing"

	"haulage/api"
	"haulage/shard"
)

// P14.5: the Root of a new shard, told in numbers: the empty digest tree's root is chapter 10's.
func TestRootOfNew(t *testing.T) {
	p := binary.LittleEndian.AppendUint64(nil, 0x69AA0765944A40DA)
	wantMark(t, "a new shard", shard.New().Root(), fnvOf(append(p, 0, 0)))
}

// P14.5: the Root of a row that chapter 10's examples have, with a seat.
func TestRootOfExample(t *testing.T) {
	s := shard.New()
	wantDo(t, s, 3, 300, put("a", "1"), yes("", "", 0, 1), true)
	p := binary.LittleEndian.AppendUint64(nil, 0x46B8B0B9426F83C6)
	wantMark(t, "behind a Put", s.Root(), fnvOf(append(p, 1, 1, 3, 172, 2, 1, 0, 0, 0, 1)))
	wantDo(t, s, 3, 301, del("a"), yes("a", "1", 1, 2), true)
	p = binary.LittleEndian.AppendUint64(nil, 0x69AA0765944A40DA)
	wantMark(t, "behind a Delete", s.Root(), fnvOf(append(p, 2, 1, 3, 173, 2, 1, 1, 97, 1, 49, 1, 2)))
}

// P14.5: behind writes, and behind Import, of many rows and seats.
func TestRootBehindWrites(t *testing.T) {
	s, m := shard.New(), tell(0)
	for i := range 300 {
		op := put(fmt.Sprint("key", i*7%101), text(i%257, i))
		if i%5 == 4 {
			op = del(fmt.Sprint("key", i%101))
		}
		wantErr(t, "Do", wantAsTold(t, "a write", s, &m, i%13, 1+i, op), api.OK)
		wantMark(t, "Root behind it", s.Root(), m.root())
		if i%20 == 0 {
			wantMark(t, "Root of Import", imported(t, s.Export()).Root(), m.root())
			wantMark(t, "Root of Copy", s.Copy().Root(), m.root())
		}
	}
}

// P14.5: shards that differ in one seat alone, in the revision alone, or in one row alone have unlike Roots; all are as told.
func TestRootsOfUnlikeShards(t *testing.T) {
	base := tell(9, row("a", "1", 1), row("b", "2", 2)).with(seat(3, 5, yes("a", "0", 3, 7)))
	unlike := []telling{
		base,
		base.with(seat(3, 6, yes("a", "0", 3, 7))),
		base.with(seat(3, 5, no("a", "0", 3, 7))),
		base.with(seat(3, 5, yes("b", "0", 3, 7))),
		base.with(seat(3, 5, yes("a", "1", 3, 7))),
		base.with(seat(3, 5, yes("a", "", 3, 7))),
		base.with(seat(3, 5, yes("a", "0", 4, 7))),
		base.with(seat(3, 5, yes("a", "0", 3, 8))),
		base.with(seat(3, 5, yes("", "", 0, 7))),
		base.with(seat(4, 5, no("", "", 0, 6))),
		tell(9, row("a", "1", 1), row("b", "2", 2)),
		tell(9, row("a", "1", 1), row("b", "2", 2)).with(seat(4, 5, yes("a", "0", 3, 7))),
		tell(10, row("a", "1", 1), row("b", "2", 2)).with(seat(3, 5, yes("a", "0", 3, 7))),
		tell(9, row("a", "2", 1), row("b", "2", 2)).with(seat(3, 5, yes("a", "0", 3, 7))),
		tell(9, row("a", "1", 3), row("b", "2", 2)).with(seat(3, 5, yes("a", "0", 3, 7))),
		tell(9, row("a", "1", 1)).with(seat(3, 5, yes("a", "0", 3, 7))),
		tell(9).with(seat(3, 5, yes("a", "0", 3, 7))),
	}
	seen := map[uint64]int{}
	for i, m := range unlike {
		root := shardOf(t, m).Root()
		wantMark(t, fmt.Sprint("shard ", i), root, m.root())
		if j, twice := seen[root]; twice {
			t.Fatalf("shards %d and %d have one Root", i, j)
		}
		seen[root] = i
	}
}

// P14.5: a full shard's.
func TestRootOfFull(t *testing.T) {
	m := padded(tell(5000).with(sixteen()...), maxCopy)
	wantShard(t, "a full one", shardOf(t, m), m)
}

// P14.5: Root changes nothing, and is the same when it is asked again.
func TestRootAgain(t *testing.T) {
	m := seated(2)
	s := shardOf(t, m)
	for range 3 {
		wantMark(t, "Root", s.Root(), m.root())
	}
	wantShard(t, "behind Root", s, m)
	wantErr(t, "Do", wantAsTold(t, "behind Root", s, &m, 2, 6, api.Op{Kind: api.OpDelete, Key: []byte("a")}), api.OK)
	wantMark(t, "Root behind a write", s.Root(), m.root())
}
