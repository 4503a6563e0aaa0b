package jump

import (
	"cmp"
	"slices"

	"haulage/seal"
)

// The bounds of what is ranked: a server's number has room in 16 bits.
const (
	maxWeight = 64
	maxRanked = 1 << 16
)

// weighs says whether a server of that weight has slots at all.
func weighs(weight int) bool { return weight >= 1 && weight <= maxWeight }

// mark is that of a slot. Four bytes of the server and four of the slot are the eight of one number.
func mark(hash uint64, server, slot int) uint64 {
	head, tail := eight(hash), eight(uint64(server)<<32|uint64(slot))
	return seal.FNV(head[:], tail[:])
}

// Score: P3.4.
func Score(hash uint64, server, weight int) uint64 {
	if !weighs(weight) || server < 0 || server >= maxRanked {
		return 0
	}
	best := uint64(0)
	for slot := range weight {
		best = max(best, mark(hash, server, slot))
	}
	return best
}

// rated is a server with its Score, so that this is reckoned once for all comparisons.
type rated struct {
	server int
	score  uint64
}

// order says which of two comes first. A server has its place by the two alone, so that no other one's growth moves it against a third.
func order(a, b rated) int {
	return cmp.Or(cmp.Compare(b.score, a.score), cmp.Compare(a.server, b.server))
}

// Rank: P3.4. A Score of 0 does not say that a server is without slots: a mark may be 0.
func Rank(hash uint64, weights []int) []int {
	if len(weights) > maxRanked {
		return nil
	}
	var all []rated
	for server, weight := range weights {
		if weighs(weight) {
			all = append(all, rated{server, Score(hash, server, weight)})
		}
	}
	slices.SortFunc(all, order)
	ranked := make([]int, len(all))
	for i, r := range all {
		ranked[i] = r.server
	}
	return ranked
}
