package jump_test

import (
	"encoding/binary"
	"hash/fnv"
	"math"
	"math/big"
	"math/rand"
	"slices"
	"testing"

	"haulage/api"
)

// want compares one answer.
func want[T int | uint64](t *testing.T, what string, got, wanted T) {
	t.Helper()
	if got != wanted {
		t.Fatalf("%s: %d, want %d", what, got, wanted)
	}
}

// wantList compares a list; nil and empty are the same.
func wantList(t *testing.T, what string, got []int, wanted ...int) {
	t.Helper()
	if !slices.Equal(got, wanted) {
		t.Fatalf("%s: %v, want %v", what, got, wanted)
	}
}

// factor is what a state is multiplied by.
const factor = 2862933555777941757

// stateAhead is the state of which this one is the next.
func stateAhead(state uint64) uint64 {
	two64 := new(big.Int).Lsh(big.NewInt(1), 64)
	back := new(big.Int).ModInverse(big.NewInt(factor), two64)
	return (state - 1) * back.Uint64()
}

// hashTo is a hash whose first jump comes to a bucket, and whose second one is made by d.
func hashTo(bucket int, d uint64) uint64 {
	back := stateAhead(2) // that of 1
	second := (d - 1) << 33
	for first := stateAhead(second); ; first += back {
		if int((1<<31)/(first>>33+1)) == bucket {
			return stateAhead(first)
		}
	}
}

// real53 is a number of 53 bits that rounds to the nearest, and of two to the even one.
func real53() *big.Float { return new(big.Float).SetPrec(53).SetMode(big.ToNearestEven) }

// modelLeap is a jump, as the chapter tells it.
func modelLeap(bucket int, state uint64) int {
	d := new(big.Float).SetUint64(state>>33 + 1)
	q := real53().Quo(big.NewFloat(1<<31), d)
	p := real53().Mul(new(big.Float).SetInt64(int64(bucket)+1), q)
	whole, _ := p.Int64()
	return int(whole)
}

// modelWay is the way below buckets, as the chapter tells it.
func modelWay(hash uint64, buckets int) []int {
	var way []int
	state, bucket := hash, 0
	for bucket < buckets {
		way = append(way, bucket)
		state = state*factor + 1
		bucket = modelLeap(bucket, state)
	}
	return way
}

// hashes are some at the edges, and of any kind; some whose first jump is as short or as long as can be.
func hashes() []uint64 {
	d := rand.New(rand.NewSource(1))
	all := []uint64{0, 1, 2, 1 << 33, 1<<33 - 1, 1 << 63, 1<<63 - 1, math.MaxUint64, math.MaxUint64 - 1}
	for _, first := range []uint64{0, 1, 1<<33 - 1, 1 << 33, math.MaxUint64, 1<<64 - 1<<33, 1<<64 - 1<<33 - 1} {
		all = append(all, stateAhead(first))
	}
	for range 200 {
		all = append(all, d.Uint64())
	}
	return all
}

// wrongBuckets are numbers of buckets that there can't be.
func wrongBuckets() []int {
	return []int{0, -1, -2, -64, math.MinInt, math.MinInt + 1, api.MaxBuckets + 1, api.MaxBuckets + 2, 2 * api.MaxBuckets, 1 << 31, 1 << 32, 1<<32 + 1, math.MaxInt - 1, math.MaxInt}
}

// modelHash is the library's mark of bytes.
func modelHash(p []byte) uint64 {
	h := fnv.New64a()
	h.Write(p)
	return h.Sum64()
}

// modelScore is the greatest mark of the slots, as the chapter tells it.
func modelScore(hash uint64, server, weight int) uint64 {
	if weight < 1 || weight > 64 || server < 0 || server > 65535 {
		return 0
	}
	var marks []uint64
	for slot := range weight {
		p := binary.BigEndian.AppendUint64(nil, hash)
		p = binary.BigEndian.AppendUint32(p, uint32(server))
		p = binary.BigEndian.AppendUint32(p, uint32(slot))
		marks = append(marks, modelHash(p))
	}
	return slices.Max(marks)
}
