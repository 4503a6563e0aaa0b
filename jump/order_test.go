package jump

import (
	"math"
	"slices"
	"testing"
)

// P3.4: of the same Score the lesser number comes first. The order itself is asked here, since no hash brings two servers to one Score: what tells their slots apart is too little to lead to one mark.
func TestOrderOfTheSameScore(t *testing.T) {
	for _, score := range []uint64{0, 1, 1 << 63, math.MaxUint64} {
		all := []rated{{7, score}, {2, score}, {65535, score}, {0, score}, {3, score}}
		slices.SortFunc(all, order)
		var servers []int
		for _, r := range all {
			servers = append(servers, r.server)
		}
		if !slices.Equal(servers, []int{0, 2, 3, 7, 65535}) {
			t.Fatalf("of the score %d: %v", score, servers)
		}
	}
}

// P3.4: the greater Score comes first, whatever the number; Scores are numbers of 64 bits without a sign.
func TestOrderOfScores(t *testing.T) {
	scores := []uint64{math.MaxUint64, 1<<63 + 1, 1 << 63, 1<<63 - 1, 2, 1, 0}
	for i, greater := range scores {
		for _, lesser := range scores[i+1:] {
			for _, servers := range [][2]int{{0, 1}, {1, 0}, {5, 5}} {
				a, b := rated{servers[0], greater}, rated{servers[1], lesser}
				if order(a, b) >= 0 || order(b, a) <= 0 {
					t.Fatalf("%v and %v are turned about", a, b)
				}
			}
		}
	}
	if order(rated{4, 9}, rated{4, 9}) != 0 {
		t.Fatal("a server is not ahead of itself")
	}
}
