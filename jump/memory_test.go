package jump_test

import (
	"slices"
	"testing"

	"haulage/jump"
)

// P3.5: a key stays as it was, and so does the spare room behind it.
func TestKeysAreNotChanged(t *testing.T) {
	whole := []byte("some key and the room behind it")
	was := slices.Clone(whole)
	jump.Hash(whole[:8])
	jump.Shard(whole[:8], 64)
	jump.Shard(whole[:0], 64)
	if !slices.Equal(whole, was) {
		t.Fatalf("%q was changed to %q", was, whole)
	}
}

// P3.5: so do weights, wrong ones among them; and they are not kept.
func TestWeightsAreNotChanged(t *testing.T) {
	whole := []int{3, 0, 64, 65, -1, 1, 7, 8, 9}
	was := slices.Clone(whole)
	ranked := jump.Rank(6, whole[:6])
	wantList(t, "the weights", whole, was...)
	wantList(t, "Rank", ranked, modelRank(6, was[:6])...)
	before := slices.Clone(ranked)
	clear(whole)
	wantList(t, "what was answered", ranked, before...)
}

// scribble changes a list, and the spare room behind it.
func scribble(list []int) {
	list = list[:cap(list)]
	for i := range list {
		list[i] = -77
	}
}

// P3.5: what was answered is the caller's own, the spare room behind it too.
func TestAnswersAreNew(t *testing.T) {
	weights := []int{1, 2, 3, 4, 5, 6}
	way, ranked := jump.Way(1, 1000), jump.Rank(5, weights)
	oldWay, oldRanked := slices.Clone(way), slices.Clone(ranked)
	other, longer := jump.Way(1, 1000), jump.Way(1, 100000)
	scribble(way)
	scribble(ranked)
	wantList(t, "Way asked ahead", other, oldWay...)
	wantList(t, "Way asked ahead", longer[:len(oldWay)], oldWay...)
	wantList(t, "Way", jump.Way(1, 1000), oldWay...)
	wantList(t, "Rank", jump.Rank(5, weights), oldRanked...)
	wantList(t, "the weights", weights, 1, 2, 3, 4, 5, 6)
}
