package jump_test

import (
	"testing"

	"haulage/jump"
)

// The chapter's table "Examples", row by row.
func TestExamples(t *testing.T) {
	want(t, "Jump", jump.Jump(0, 1), 0)
	want(t, "Jump", jump.Jump(0, 0), -1)
	want(t, "Jump", jump.Jump(7, -3), -1)
	want(t, "Jump", jump.Jump(7, 1048577), -1)

	wantList(t, "Way", jump.Way(0, 1000), 0)
	wantList(t, "Way", jump.Way(1, 1000), 0, 6, 17, 42, 43, 45, 55, 192, 261, 493, 549)
	want(t, "Jump", jump.Jump(1, 6), 0)
	want(t, "Jump", jump.Jump(1, 7), 6)
	want(t, "Jump", jump.Jump(1, 17), 6)
	want(t, "Jump", jump.Jump(1, 18), 17)

	want(t, "Hash", jump.Hash([]byte("abc")), 16654208175385433931)
	want(t, "Shard", jump.Shard([]byte("abc"), 64), 5)
	want(t, "Shard", jump.Shard([]byte("b"), 64), 50)

	for shard, home := range []int{0, 0, 1, 1, 1, 0} {
		want(t, "Home", jump.Home(shard, 3), home)
	}
	want(t, "Home", jump.Home(-1, 3), 0)

	want(t, "Score", jump.Score(5, 1, 1), 12951041979030437993)
	want(t, "Score", jump.Score(5, 1, 0), 0)
	want(t, "Score", jump.Score(5, 1, 65), 0)

	wantList(t, "Rank", jump.Rank(5, []int{1, 1, 2}), 1, 0, 2)
	wantList(t, "Rank", jump.Rank(6, []int{1, 1, 1}), 2, 0, 1)
	wantList(t, "Rank", jump.Rank(6, []int{1, 0, 1, 1}), 2, 3, 0)

	wantList(t, "Rank", jump.Rank(5, nil))
	wantList(t, "Rank", jump.Rank(5, []int{}))
	wantList(t, "Rank", jump.Rank(5, []int{0, -1, 65}))
}
