package load_test

import (
	"fmt"
	"math"
	"testing"

	"haulage/api"
	"haulage/load"
)

// P9.2: a weight is added to its shard's load and to window 7, and to nothing else.
func TestHit(t *testing.T) {
	m := fresh(t, 4, 10)
	hit(t, m, 2, 0, 1.5)
	wantRow(t, "one Hit", m, 0, 0, 1.5, 0)
	wantWindows(t, "one Hit", m, 0, 0, 0, 0, 0, 0, 0, 1.5)
	hit(t, m, 0, 0, 3)
	hit(t, m, 3, 0, 5)
	hit(t, m, 2, 0, 0.25)
	wantRow(t, "four Hits", m, 3, 0, 1.75, 5)
	wantWindows(t, "four Hits", m, 0, 0, 0, 0, 0, 0, 0, 9.75)
}

// P9.2: the clock goes on first, and the weight is added then: whole.
func TestHitLater(t *testing.T) {
	m := fresh(t, 2, 10)
	hit(t, m, 0, 5, 8)
	hit(t, m, 0, 10, 8)
	wantRow(t, "a half life on", m, 12, 0)
	wantWindows(t, "a half life on", m, 0, 0, 0, 0, 0, 0, 8, 8)
	hit(t, m, 1, 39, 1)
	wantRow(t, "two more", m, 3, 1)
	wantWindows(t, "two more", m, 0, 0, 0, 0, 8, 8, 0, 1)
	wantClock(t, "two more", m, 39)
}

// P9.2: sums are rounded one by one, in the order of the Hits.
func TestHitSumsOneByOne(t *testing.T) {
	m := fresh(t, 2, 1)
	hit(t, m, 0, 0, 1<<40)
	for range 4 {
		hit(t, m, 0, 0, 0x1p-14)
	}
	for range 4 {
		hit(t, m, 1, 0, 0x1p-14)
	}
	hit(t, m, 1, 0, 1<<40)
	wantRow(t, "great first, small first", m, 1<<40, 0x1p40+0x1p-12)

	m = fresh(t, 1, 1)
	hit(t, m, 0, 0, 0.1)
	hit(t, m, 0, 0, 0.2)
	hit(t, m, 0, 0, 0.3)
	wantRow(t, "tenths", m, 0.6000000000000001)
	wantWindows(t, "tenths", m, 0, 0, 0, 0, 0, 0, 0, 0.6000000000000001)
}

// P9.2: the weights at the edges: 0, -0 and 2^40, and the least of all.
func TestWeights(t *testing.T) {
	weights := []float64{0, math.Copysign(0, -1), least, 0x1p-1022, 1, math.Nextafter(1<<40, 0), 1 << 40}
	for _, weight := range weights {
		m := fresh(t, 2, 10)
		hit(t, m, 1, 7, weight)
		what := fmt.Sprintf("weight %v", weight)
		wantRow(t, what, m, 0, weight+0)
		wantWindows(t, what, m, 0, 0, 0, 0, 0, 0, 0, weight+0)
		wantClock(t, what, m, 7)
	}
}

// P9.2: a Hit without weight is a Go: the clock goes on all the same.
func TestHitWithoutWeight(t *testing.T) {
	for _, weight := range []float64{0, math.Copysign(0, -1)} {
		a, b := laden(t, 10, 8, 3), laden(t, 10, 8, 3)
		hit(t, a, 1, 25, weight)
		goOn(t, b, 25)
		wantAlike(t, "weight 0", a, b)
		wantClock(t, "weight 0", a, 25)
	}
}

// P9.2: times at the edges: 0, the clock itself, MaxTime, and that again.
func TestTimes(t *testing.T) {
	m := fresh(t, 1, 1048576)
	hit(t, m, 0, 0, 1)
	hit(t, m, 0, 0, 1)
	goOn(t, m, 0)
	goOn(t, m, 41)
	hit(t, m, 0, 41, 1)
	wantRow(t, "at 41", m, 3)
	hit(t, m, 0, 1<<40, 5)
	wantRow(t, "at MaxTime", m, 5)
	hit(t, m, 0, api.MaxTime, 2)
	goOn(t, m, api.MaxTime)
	wantRow(t, "at MaxTime again", m, 7)
	wantErr(t, "Go(MaxTime - 1)", m.Go(api.MaxTime-1), api.ErrLoadTime)
	wantErr(t, "Go(MaxTime + 1)", m.Go(api.MaxTime+1), api.ErrArg)
	wantErr(t, "Go(0)", m.Go(0), api.ErrLoadTime)

	m = fresh(t, 1, 1)
	goOn(t, m, api.MaxTime)
	hit(t, m, 0, api.MaxTime, 2)
	wantRow(t, "Go to MaxTime, and Hit", m, 2)
}

// a meter with the clock at 25, whose loads and windows would all show it, if it went on.
func midway(t *testing.T) *load.Meter {
	m := fresh(t, 3, 10)
	hit(t, m, 0, 3, 16)
	hit(t, m, 1, 12, 6)
	hit(t, m, 2, 25, 5)
	return m
}

// P9.2, P0.3: ErrArg of a wrong shard, time or weight, each alone and all together; nothing has changed.
func TestHitRefuses(t *testing.T) {
	m := midway(t)
	was := look(m)
	refuse := func(shard, now int, weight float64) {
		t.Helper()
		what := fmt.Sprintf("Hit(%d, %d, %v)", shard, now, weight)
		wantErr(t, what, m.Hit(shard, now, weight), api.ErrArg)
		if look(m) != was {
			t.Fatalf("%s has changed something: %v", what, m.Row())
		}
	}
	for _, shard := range wrongShards(3) {
		for _, now := range []int{0, 24, 25, 26, 45, api.MaxTime} {
			refuse(shard, now, 1)
		}
	}
	for _, now := range wrongTimes() {
		refuse(0, now, 1)
		refuse(2, now, 0)
	}
	for _, weight := range wrongWeights() {
		for _, now := range []int{0, 24, 25, 26, 45, api.MaxTime} {
			refuse(0, now, weight)
		}
	}
	for _, shard := range wrongShards(3) {
		for _, now := range wrongTimes() {
			refuse(shard, now, 1)
			for _, weight := range wrongWeights() {
				refuse(shard, 45, weight)
				refuse(1, now, weight)
				refuse(shard, now, weight)
			}
		}
	}
	wantClock(t, "refused", m, 25)
}

// P9.2, P0.3: ErrArg of a wrong time; nothing has changed.
func TestGoRefuses(t *testing.T) {
	m := midway(t)
	was := look(m)
	for _, now := range wrongTimes() {
		wantErr(t, fmt.Sprintf("Go(%d)", now), m.Go(now), api.ErrArg)
		if look(m) != was {
			t.Fatalf("Go(%d) has changed something: %v", now, m.Row())
		}
	}
	wantClock(t, "refused", m, 25)
}

// P9.2, P0.3: ErrLoadTime below the clock, of the same age or an earlier one; nothing has changed.
func TestBelowTheClock(t *testing.T) {
	m := midway(t)
	was := look(m)
	for _, now := range []int{0, 1, 9, 10, 19, 20, 23, 24} {
		wantErr(t, fmt.Sprintf("Go(%d)", now), m.Go(now), api.ErrLoadTime)
		for shard := range 3 {
			wantErr(t, fmt.Sprintf("Hit(%d, %d, 1)", shard, now), m.Hit(shard, now, 1), api.ErrLoadTime)
			wantErr(t, fmt.Sprintf("Hit(%d, %d, 0)", shard, now), m.Hit(shard, now, 0), api.ErrLoadTime)
		}
		if look(m) != was {
			t.Fatalf("what came at %d has changed something: %v", now, m.Row())
		}
	}
	wantClock(t, "refused", m, 25)
	hit(t, m, 0, 25, 1)
	wantRow(t, "at the clock", m, 5, 3, 5)
}

// P9.2, P0.2: what may not be is found ahead of what is too early.
func TestOrderOfErrors(t *testing.T) {
	m := midway(t)
	wantErr(t, "a wrong shard, too early", m.Hit(3, 24, 1), api.ErrArg)
	wantErr(t, "a shard below 0, too early", m.Hit(-1, 24, 1), api.ErrArg)
	wantErr(t, "a wrong weight, too early", m.Hit(0, 24, -1), api.ErrArg)
	wantErr(t, "no weight at all, too early", m.Hit(0, 24, math.NaN()), api.ErrArg)
	wantErr(t, "a time below 0, below the clock too", m.Hit(0, -1, 1), api.ErrArg)
	wantErr(t, "Go to a time below 0, below the clock too", m.Go(-1), api.ErrArg)
	wantErr(t, "too early alone", m.Hit(0, 24, 1), api.ErrLoadTime)
}
