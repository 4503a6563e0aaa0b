package load_test

import (
	"fmt"
	"math"
	"testing"

	"haulage/api"
	"haulage/load"
)

// P9.1: as many shards as may be, each half life that may be; a new meter's loads, clock and windows are 0.
func TestNew(t *testing.T) {
	for _, shards := range []int{1, 2, 3, 63, 64} {
		for _, half := range []int{1, 2, 10, 1048575, 1048576} {
			what := fmt.Sprintf("New(%d, %d)", shards, half)
			m := fresh(t, shards, half)
			wantRow(t, what, m, make([]float64, shards)...)
			wantReal(t, what+": Sum", m.Sum(), 0)
			wantReal(t, what+": Mean", m.Mean(), 0)
			wantReal(t, what+": Spread", m.Spread(), 0)
			wantNum(t, what+": Top", m.Top(), 0)
			wantWave(t, what, m.Wave(), [8]complex128{})
			hit(t, m, shards-1, 0, 1)
			wantReal(t, what+": Of", m.Of(shards-1), 1)
			wantErr(t, what+": Hit behind the last shard", m.Hit(shards, 0, 1), api.ErrArg)
		}
	}
}

// P9.1: too few and too many shards, too short and too long a half life; no meter beside the error.
func TestNewRefuses(t *testing.T) {
	wrongShards := []int{math.MinInt, -64, -1, 0, 65, 66, 128, 1 << 32, 1<<32 + 1, math.MaxInt}
	wrongHalves := []int{math.MinInt, -1048576, -1, 0, 1048577, 1 << 21, 1 << 32, 1<<32 + 1, math.MaxInt}
	refuse := func(shards, half int) {
		m, err := load.New(shards, half)
		wantErr(t, fmt.Sprintf("New(%d, %d)", shards, half), err, api.ErrArg)
		if m != nil {
			t.Fatalf("New(%d, %d): a meter beside the error", shards, half)
		}
	}
	for _, shards := range wrongShards {
		refuse(shards, 1)
		refuse(shards, 1048576)
		for _, half := range wrongHalves {
			refuse(shards, half)
		}
	}
	for _, half := range wrongHalves {
		refuse(1, half)
		refuse(64, half)
	}
}

// P9.1: the half life is the one that was asked for, to the time.
func TestHalfLife(t *testing.T) {
	for _, half := range []int{1, 2, 3, 10, 1000, 1048575, 1048576} {
		m := fresh(t, 1, half)
		hit(t, m, 0, 0, 8)
		goOn(t, m, half-1)
		wantRow(t, fmt.Sprintf("half life %d, at its last time", half), m, 8)
		goOn(t, m, half)
		wantRow(t, fmt.Sprintf("half life %d, behind it", half), m, 4)
		goOn(t, m, 2*half)
		wantRow(t, fmt.Sprintf("half life %d, behind two", half), m, 2)
	}
}

// Types: two meters have nothing to do with one another.
func TestTwoMeters(t *testing.T) {
	a, b := fresh(t, 2, 10), fresh(t, 2, 10)
	hit(t, a, 0, 25, 4)
	wantRow(t, "the other", b, 0, 0)
	wantClock(t, "the other", b, 0)
	wantWave(t, "the other", b.Wave(), [8]complex128{})
	hit(t, b, 1, 5, 3)
	wantRow(t, "the first", a, 4, 0)
	wantClock(t, "the first", a, 25)
	wantWindows(t, "the first", a, 0, 0, 0, 0, 0, 0, 0, 4)
	wantWindows(t, "the other", b, 0, 0, 0, 0, 0, 0, 0, 3)
}
