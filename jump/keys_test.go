package jump_test

import (
	"encoding/binary"
	"math"
	"math/rand"
	"testing"

	"haulage/api"
	"haulage/jump"
)

// someKeys are keys of many lengths, none among them.
func someKeys() [][]byte {
	d := rand.New(rand.NewSource(4))
	all := [][]byte{nil, {}, {0}, {255}, []byte("abc"), make([]byte, 64)}
	for n := range 100 {
		p := make([]byte, n)
		d.Read(p)
		all = append(all, p)
	}
	return all
}

// modelJump is the last of the way, or -1.
func modelJump(hash uint64, buckets int) int {
	if buckets < 1 || buckets > 1<<20 {
		return -1
	}
	way := modelWay(hash, buckets)
	return way[len(way)-1]
}

// P3.1: the library's mark.
func TestHash(t *testing.T) {
	for _, key := range someKeys() {
		want(t, "Hash", jump.Hash(key), modelHash(key))
	}
}

// P3.3: keys to shards, of right and of wrong numbers.
func TestShard(t *testing.T) {
	for _, key := range someKeys() {
		for _, shards := range append(wrongBuckets(), 1, 2, 7, 64, 65, 1000, api.MaxBuckets) {
			want(t, "Shard", jump.Shard(key, shards), modelJump(modelHash(key), shards))
		}
	}
}

// P3.3: shards to servers; a shard may be any number, and each of its bytes counts.
func TestHome(t *testing.T) {
	shards := []int{-1, -2, -255, -256, math.MinInt, math.MinInt + 1, math.MaxInt, math.MaxInt - 1, 0x0102030405060708, -0x0102030405060708}
	for shard := range 300 {
		shards = append(shards, shard)
	}
	for i := range 63 {
		shards = append(shards, 1<<i, -1<<i)
	}
	for _, shard := range shards {
		hash := modelHash(binary.BigEndian.AppendUint64(nil, uint64(shard)))
		for _, servers := range append(wrongBuckets(), 1, 2, 3, 5, 8, 1000, api.MaxBuckets) {
			want(t, "Home", jump.Home(shard, servers), modelJump(hash, servers))
		}
	}
}
