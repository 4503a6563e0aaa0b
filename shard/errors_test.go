package shard_test

import (
	"testing"

	"haulage/api"
	"haulage/shard"
)

// P14.2, P0.2: ErrNil comes ahead of all others.
func TestNilAheadOfAll(t *testing.T) {
	var s *shard.Shard
	wantRefused(t, s, 16, 1, put("a", "1"), api.ErrNil)
	wantRefused(t, s, 0, 0, put("a", "1"), api.ErrNil)
	wantRefused(t, s, -1, -1, api.Op{}, api.ErrNil)
	for _, op := range wrongOps() {
		wantRefused(t, s, 0, 1, op, api.ErrNil)
	}
}

// P14.2, P0.2: ErrArg comes ahead of ErrTabOp, ErrShardOld, ErrTabEnd and ErrShardFull.
func TestArgAheadOfOthers(t *testing.T) {
	s := shardOf(t, atEnd(maxRev))
	for _, op := range append(wrongOps(), writesOf("a")...) {
		wantRefused(t, s, -1, 1, op, api.ErrArg)
		wantRefused(t, s, 16, 1, op, api.ErrArg)
		wantRefused(t, s, 3, 0, op, api.ErrArg)
		wantRefused(t, s, 3, -8, op, api.ErrArg)
		wantRefused(t, s, 3, maxSeq+1, op, api.ErrArg)
	}
	s = shardOf(t, padded(tell(5000), maxCopy))
	wantRefused(t, s, 16, 1, put("new", "row"), api.ErrArg)
	wantRefused(t, s, 0, 0, put("new", "row"), api.ErrArg)
	wantRefused(t, s, 0, 1, put("new", "row"), api.ErrShardFull)
}

// P14.2, P0.2: ErrTabOp comes ahead of ErrShardOld, ErrTabEnd and ErrShardFull.
func TestTabOpAheadOfOthers(t *testing.T) {
	end := shardOf(t, atEnd(maxRev))
	full := shardOf(t, padded(tell(5000).with(seat(3, 8, no("", "", 0, 9))), maxCopy))
	for _, op := range wrongOps() {
		for _, s := range []*shard.Shard{end, full} {
			wantRefused(t, s, 3, 7, op, api.ErrTabOp)
			wantRefused(t, s, 3, 8, op, api.ErrTabOp)
			wantRefused(t, s, 3, 9, op, api.ErrTabOp)
		}
	}
}

// P14.2, P0.2: ErrShardOld comes ahead of ErrTabEnd and ErrShardFull; it is said of reads too.
func TestOldAheadOfOthers(t *testing.T) {
	end := shardOf(t, atEnd(maxRev))
	full := shardOf(t, padded(tell(5000).with(seat(3, 8, no("", "", 0, 9))), maxCopy))
	for _, s := range []*shard.Shard{end, full} {
		for _, op := range append(writesOf("new"), get("a"), seek("")) {
			wantRefused(t, s, 3, 1, op, api.ErrShardOld)
			wantRefused(t, s, 3, 7, op, api.ErrShardOld)
		}
	}
	wantRefused(t, end, 3, 9, put("new", "row"), api.ErrTabEnd)
	wantRefused(t, full, 3, 9, put("new", "row"), api.ErrShardFull)
}

// P14.2, P0.2: ErrTabEnd comes ahead of ErrShardFull.
func TestEndAheadOfFull(t *testing.T) {
	m := padded(tell(maxRev), maxCopy)
	s := shardOf(t, m)
	wantNum(t, "Size", s.Size(), maxCopy)
	for _, op := range writesOf("new") {
		wantRefused(t, s, 3, 1, op, api.ErrTabEnd)
	}
	wantShard(t, "behind it", s, m)
}
