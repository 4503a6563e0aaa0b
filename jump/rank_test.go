package jump_test

import (
	"math"
	"math/rand"
	"slices"
	"sort"
	"testing"

	"haulage/jump"
)

// noMark is a hash whose eight bytes have the mark 0: slot 0 of server 0 has it too then.
const noMark = 0xD56BB95342870836

// modelRank sorts the servers that have slots, as the chapter tells it.
func modelRank(hash uint64, weights []int) []int {
	var servers []int
	for server, weight := range weights {
		if 1 <= weight && weight <= 64 {
			servers = append(servers, server)
		}
	}
	scores := make([]uint64, len(weights))
	for server, weight := range weights {
		scores[server] = modelScore(hash, server, weight)
	}
	sort.SliceStable(servers, func(i, j int) bool { return scores[servers[i]] > scores[servers[j]] })
	return servers
}

// someWeights are n weights from -2 to 67.
func someWeights(d *rand.Rand, n int) []int {
	weights := make([]int, n)
	for i := range weights {
		weights[i] = d.Intn(70) - 2
	}
	return weights
}

// P3.4: the greatest of the slots' marks.
func TestScore(t *testing.T) {
	for _, hash := range append(hashes(), noMark) {
		for _, server := range []int{0, 1, 2, 255, 256, 257, 32768, 65534, 65535} {
			for _, weight := range []int{1, 2, 3, 17, 63, 64} {
				want(t, "Score", jump.Score(hash, server, weight), modelScore(hash, server, weight))
			}
		}
	}
}

// P3.4: weights below 1 and above 64; servers below 0 and above 65535.
func TestScoreOfWhatCantBe(t *testing.T) {
	weights := []int{0, -1, -64, math.MinInt, 65, 66, 256, 257, 1<<32 + 1, math.MaxInt}
	servers := []int{-1, -2, -65536, math.MinInt, 65536, 65537, 1 << 31, 1 << 32, 1<<32 + 1, math.MaxInt}
	for _, hash := range []uint64{0, 5, math.MaxUint64} {
		for _, weight := range weights {
			want(t, "Score", jump.Score(hash, 1, weight), 0)
		}
		for _, server := range servers {
			want(t, "Score", jump.Score(hash, server, 1), 0)
			want(t, "Score", jump.Score(hash, server, weights[0]), 0)
			want(t, "Score", jump.Score(hash, server, 64), 0)
		}
	}
}

// P3.4: a Score may be 0 where there are slots: that server is ranked, as the last.
func TestScoreOfZero(t *testing.T) {
	want(t, "Score", jump.Score(noMark, 0, 1), 0)
	wantList(t, "Rank", jump.Rank(noMark, []int{1}), 0)
	wantList(t, "Rank", jump.Rank(noMark, []int{1, 1, 0, 1}), modelRank(noMark, []int{1, 1, 0, 1})...)
	ranked := jump.Rank(noMark, []int{1, 1, 0, 1})
	want(t, "the last", ranked[2], 0)
}

// P3.4: ranks of few and many servers, among them some whose weights can't be.
func TestRank(t *testing.T) {
	d := rand.New(rand.NewSource(5))
	for _, hash := range hashes() {
		for _, n := range []int{0, 1, 2, 3, 8, 40} {
			weights := someWeights(d, n)
			wantList(t, "Rank", jump.Rank(hash, weights), modelRank(hash, weights)...)
		}
	}
}

// P3.4: weights at the edges.
func TestRankOfEdges(t *testing.T) {
	weights := []int{0, 1, -1, 64, 65, math.MinInt, math.MaxInt, 1<<32 + 1, 2, 63}
	for _, hash := range hashes() {
		ranked := jump.Rank(hash, weights)
		wantList(t, "Rank", ranked, modelRank(hash, weights)...)
		slices.Sort(ranked)
		wantList(t, "the servers", ranked, 1, 3, 8, 9)
	}
}

// P3.4: 65536 weights are ranked, one more are not, and of what kind they are does not matter.
func TestRankOfVeryMany(t *testing.T) {
	weights := make([]int, 65537)
	for i := range weights {
		weights[i] = 1
	}
	wantList(t, "Rank", jump.Rank(9, weights[:65536]), modelRank(9, weights[:65536])...)
	wantList(t, "Rank", jump.Rank(9, weights))
	wantList(t, "Rank", jump.Rank(9, make([]int, 65537)))
	wantList(t, "Rank", jump.Rank(9, make([]int, 65536)))
	few := make([]int, 65536)
	few[0], few[65535] = 1, 64
	wantList(t, "Rank", jump.Rank(9, few), modelRank(9, few)...)
	want(t, "how many", len(jump.Rank(9, few)), 2)
}

// without is a list without a server.
func without(ranked []int, server int) []int {
	return slices.DeleteFunc(slices.Clone(ranked), func(s int) bool { return s == server })
}

// P3.8: a weight that is made greater.
func TestOneGrows(t *testing.T) {
	d := rand.New(rand.NewSource(6))
	for _, hash := range hashes() {
		weights := someWeights(d, 12)
		server := d.Intn(len(weights))
		weights[server] = 1 + d.Intn(63)
		was := jump.Rank(hash, weights)
		for weights[server] < 64 {
			weights[server]++
			is := jump.Rank(hash, weights)
			wantList(t, "the others", without(is, server), without(was, server)...)
			if slices.Index(is, server) > slices.Index(was, server) {
				t.Fatalf("server %d grew, and fell from %v to %v", server, was, is)
			}
			was = is
		}
	}
}

// P3.8: a server that had no slots gets some, or is put behind the others.
func TestOneComes(t *testing.T) {
	d := rand.New(rand.NewSource(7))
	for _, hash := range hashes() {
		weights := someWeights(d, 12)
		was := jump.Rank(hash, weights)
		grown := append(slices.Clone(weights), 1+d.Intn(64))
		is := jump.Rank(hash, grown)
		wantList(t, "the others", without(is, 12), was...)
		want(t, "how many", len(is), len(was)+1)

		server := d.Intn(12)
		weights[server] = 0
		was = jump.Rank(hash, weights)
		weights[server] = 1
		wantList(t, "the others", without(jump.Rank(hash, weights), server), was...)
	}
}

// P3.8: a weight that is made 0.
func TestOneGoes(t *testing.T) {
	d := rand.New(rand.NewSource(8))
	for _, hash := range hashes() {
		weights := someWeights(d, 12)
		was := jump.Rank(hash, weights)
		for server := range weights {
			fewer := slices.Clone(weights)
			fewer[server] = 0
			wantList(t, "the others", jump.Rank(hash, fewer), without(was, server)...)
		}
	}
}
