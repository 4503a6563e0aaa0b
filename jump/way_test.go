package jump_test

import (
	"math/rand"
	"slices"
	"testing"

	"haulage/api"
	"haulage/jump"
)

// P3.2: the way as the chapter tells it, for few buckets and for many.
func TestWay(t *testing.T) {
	for _, hash := range hashes() {
		for _, buckets := range []int{1, 2, 3, 8, 64, 1000, 65536, api.MaxBuckets - 1, api.MaxBuckets} {
			wantList(t, "Way", jump.Way(hash, buckets), modelWay(hash, buckets)...)
		}
	}
}

// P3.2: Jump is the last of the way.
func TestJump(t *testing.T) {
	for _, hash := range hashes() {
		way := modelWay(hash, 300)
		for buckets := 1; buckets <= 300; buckets++ {
			at, found := slices.BinarySearch(way, buckets-1)
			if found {
				at++
			}
			want(t, "Jump", jump.Jump(hash, buckets), way[at-1])
		}
		whole := modelWay(hash, api.MaxBuckets)
		want(t, "Jump", jump.Jump(hash, api.MaxBuckets), whole[len(whole)-1])
	}
}

// P3.2: the numbers that others have for this jump.
func TestJumpsThatOthersMake(t *testing.T) {
	want(t, "Jump", jump.Jump(42, 57), 43)
	want(t, "Jump", jump.Jump(0xDEAD10CC, 1), 0)
	want(t, "Jump", jump.Jump(0xDEAD10CC, 666), 361)
	want(t, "Jump", jump.Jump(256, 1024), 520)
}

// P3.2: numbers of buckets below 1, and above MaxBuckets.
func TestWrongBuckets(t *testing.T) {
	for _, hash := range hashes() {
		for _, buckets := range wrongBuckets() {
			want(t, "Jump", jump.Jump(hash, buckets), -1)
			wantList(t, "Way", jump.Way(hash, buckets))
		}
	}
}

// P3.2: a way that has the last bucket of all in it, and one that would come to the first that there can't be.
func TestTheLastBucket(t *testing.T) {
	const hash = 1222550
	ahead := []int{0, 1, 8, 29, 30, 85, 254, 533, 67914, 278346}
	wantList(t, "Way", jump.Way(hash, api.MaxBuckets-1), ahead...)
	wantList(t, "Way", jump.Way(hash, api.MaxBuckets), append(ahead, api.MaxBuckets-1)...)
	want(t, "Jump", jump.Jump(hash, api.MaxBuckets-1), 278346)
	want(t, "Jump", jump.Jump(hash, api.MaxBuckets), api.MaxBuckets-1)

	beyond := stateAhead((2048 - 1) << 33) // 2^31 / 2048 is MaxBuckets
	wantList(t, "Way", jump.Way(beyond, api.MaxBuckets), 0)
	want(t, "Jump", jump.Jump(beyond, api.MaxBuckets), 0)
}

// "Words", a jump: the shortest first jump (d is 2^31: to the next bucket), the longest that is seen, and what stands between; d hangs on the state's upper bits alone.
func TestFirstJumps(t *testing.T) {
	for _, c := range []struct {
		d      uint64
		bucket int
	}{{1 << 31, 1}, {1<<31 - 1, 1}, {1<<30 + 1, 1}, {1 << 30, 2}, {1<<30 - 1, 2}, {715827883, 2}, {715827882, 3}, {1 << 12, 1 << 19}, {2049, 1048064}} {
		for _, low := range []uint64{0, 1, 1 << 32, 1<<33 - 1} {
			hash := stateAhead((c.d-1)<<33 | low)
			want(t, "Way", jump.Way(hash, api.MaxBuckets)[1], c.bucket)
			want(t, "Jump", jump.Jump(hash, c.bucket), 0)
			want(t, "Jump", jump.Jump(hash, c.bucket+1), c.bucket)
		}
	}
	for _, d := range []uint64{1, 2, 1000, 2047, 2048} {
		wantList(t, "Way", jump.Way(stateAhead((d-1)<<33), api.MaxBuckets), 0)
	}
}

// "Words", a jump: the product is rounded: 3 times what is nearest to 4 / 3 lies below 4, just between it and the number ahead, and 4 is even.
func TestTheProductIsRounded(t *testing.T) {
	for _, c := range []struct{ bucket, to int }{{2, 4}, {5, 8}, {11, 16}, {23, 32}} {
		hash := hashTo(c.bucket, 3<<29)
		wantList(t, "Way", jump.Way(hash, c.to+1), 0, c.bucket, c.to)
	}
}

// "Words", a jump: the quotient is rounded ahead of the product: 49 times what is nearest to 2^31 / (49 * 2^j) lies below 2^(31 - j), so that the jump falls short of it by one.
func TestTheQuotientIsRounded(t *testing.T) {
	for j := 12; j <= 25; j++ {
		for times := 1; times <= 3; times++ {
			bucket, to := 49*times-1, times<<(31-j)-1
			if to <= bucket || to >= api.MaxBuckets {
				continue
			}
			hash := hashTo(bucket, 49<<j)
			wantList(t, "Way", jump.Way(hash, to+1), 0, bucket, to)
			want(t, "Jump", jump.Jump(hash, to), bucket)
			want(t, "Jump", jump.Jump(hash, to+1), to)
		}
	}
}

// "Words", a jump: all jumps whose quotient is without end and whose product would be whole, from the lower buckets.
func TestJumpsToWholeNumbers(t *testing.T) {
	for odd := 3; odd < 150; odd += 2 {
		for _, j := range []int{12, 18, 22} {
			hash := hashTo(odd-1, uint64(odd)<<j)
			wantList(t, "Way", jump.Way(hash, api.MaxBuckets), modelWay(hash, api.MaxBuckets)...)
		}
	}
}

// P3.6: one bucket more takes, or nothing moves; over all numbers of buckets.
func TestLittleMoves(t *testing.T) {
	for _, hash := range []uint64{1, 1222550, 0xDEAD10CC} {
		was := jump.Jump(hash, 1)
		for n := 1; n < api.MaxBuckets; n++ {
			is := jump.Jump(hash, n+1)
			if is != was && is != n {
				t.Fatalf("hash %d: from %d to %d with the bucket %d", hash, was, is, n)
			}
			was = is
		}
	}
}

// P3.6: many keys, with one bucket after the other.
func TestLittleMovesOfMany(t *testing.T) {
	for _, hash := range hashes() {
		for n := 1; n < 200; n++ {
			was, is := jump.Jump(hash, n), jump.Jump(hash, n+1)
			if is != was && is != n {
				t.Fatalf("hash %d: from %d to %d with the bucket %d", hash, was, is, n)
			}
		}
	}
}

// P3.6: the way of fewer buckets is the beginning of that of more.
func TestBeginnings(t *testing.T) {
	d := rand.New(rand.NewSource(2))
	for _, hash := range hashes() {
		whole := jump.Way(hash, api.MaxBuckets)
		for range 40 {
			n := 1 + d.Intn(api.MaxBuckets-1)>>d.Intn(20)
			way := jump.Way(hash, n)
			wantList(t, "Way", way, whole[:len(way)]...)
			if len(way) < len(whole) && whole[len(way)] < n {
				t.Fatalf("Way(%d, %d) ends ahead of %d", hash, n, whole[len(way)])
			}
		}
	}
}

// P3.7: the way rises, from 0 on, below the number of buckets.
func TestRising(t *testing.T) {
	d := rand.New(rand.NewSource(3))
	for _, hash := range hashes() {
		want(t, "Jump", jump.Jump(hash, 1), 0)
		wantList(t, "Way", jump.Way(hash, 1), 0)
		for range 40 {
			n := 1 + d.Intn(api.MaxBuckets)>>d.Intn(20)
			way := jump.Way(hash, n)
			want(t, "the first", way[0], 0)
			for i := 1; i < len(way); i++ {
				if way[i] <= way[i-1] {
					t.Fatalf("Way(%d, %d): %v", hash, n, way)
				}
			}
			if last := way[len(way)-1]; last >= n || jump.Jump(hash, n) != last {
				t.Fatalf("Way(%d, %d): %v, and Jump %d", hash, n, way, jump.Jump(hash, n))
			}
		}
	}
}
