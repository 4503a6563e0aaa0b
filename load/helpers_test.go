package load_test

import (
	"fmt"
	"math"
	"testing"

	"haulage/api"
	"haulage/load"
)

// least is the least real above 0.
const least = 5e-324

// fresh is a meter that has been told nothing.
func fresh(t *testing.T, shards, half int) *load.Meter {
	t.Helper()
	m, err := load.New(shards, half)
	if m == nil || err != api.OK {
		t.Fatalf("New(%d, %d): %v, error %d", shards, half, m, err)
	}
	return m
}

// laden is a meter whose shards have these loads, told at the time 0.
func laden(t *testing.T, half int, loads ...float64) *load.Meter {
	t.Helper()
	m := fresh(t, len(loads), half)
	for shard, weight := range loads {
		hit(t, m, shard, 0, weight)
	}
	return m
}

// hit is a Hit that goes well.
func hit(t *testing.T, m *load.Meter, shard, now int, weight float64) {
	t.Helper()
	wantErr(t, fmt.Sprintf("Hit(%d, %d, %v)", shard, now, weight), m.Hit(shard, now, weight), api.OK)
}

// goOn is a Go that goes well.
func goOn(t *testing.T, m *load.Meter, now int) {
	t.Helper()
	wantErr(t, fmt.Sprintf("Go(%d)", now), m.Go(now), api.OK)
}

func wantErr(t *testing.T, what string, got, wanted api.Errno) {
	t.Helper()
	if got != wanted {
		t.Fatalf("%s: error %d, want %d", what, got, wanted)
	}
}

func wantNum(t *testing.T, what string, got, wanted int) {
	t.Helper()
	if got != wanted {
		t.Fatalf("%s: %d, want %d", what, got, wanted)
	}
}

// wantReal compares reals to the bit: a NaN is like itself, and -0 is not like 0.
func wantReal(t *testing.T, what string, got, wanted float64) {
	t.Helper()
	if math.Float64bits(got) != math.Float64bits(wanted) {
		t.Fatalf("%s: %v, want %v", what, got, wanted)
	}
}

// wantRow compares all loads to the bit, asked in one list and one by one.
func wantRow(t *testing.T, what string, m *load.Meter, wanted ...float64) {
	t.Helper()
	row := m.Row()
	wantNum(t, what+": loads", len(row), len(wanted))
	for shard, x := range wanted {
		wantReal(t, fmt.Sprintf("%s: load %d of Row", what, shard), row[shard], x)
		wantReal(t, fmt.Sprintf("%s: Of(%d)", what, shard), m.Of(shard), x)
	}
}

// wantWave compares a rhythm to the bit.
func wantWave(t *testing.T, what string, got, wanted [8]complex128) {
	t.Helper()
	for k := range wanted {
		wantReal(t, fmt.Sprintf("%s: the real part of entry %d", what, k), real(got[k]), real(wanted[k]))
		wantReal(t, fmt.Sprintf("%s: the imaginary part of entry %d", what, k), imag(got[k]), imag(wanted[k]))
	}
}

// wantWindows asks for the windows by the rhythm that they have.
func wantWindows(t *testing.T, what string, m *load.Meter, windows ...float64) {
	t.Helper()
	wantNum(t, what+": windows", len(windows), 8)
	wantWave(t, fmt.Sprintf("%s: windows %v", what, windows), m.Wave(), toldWave([8]float64(windows)))
}

// wantClock asks for the clock: what is ahead of it is refused, what is at it is not. It is left where it was.
func wantClock(t *testing.T, what string, m *load.Meter, clock int) {
	t.Helper()
	if clock > 0 {
		wantErr(t, fmt.Sprintf("%s: Go(%d), below the clock", what, clock-1), m.Go(clock-1), api.ErrLoadTime)
	}
	wantErr(t, fmt.Sprintf("%s: Go(%d), at the clock", what, clock), m.Go(clock), api.OK)
}

// seen is all that a meter tells, as bits.
type seen struct {
	row  string
	sums [3]uint64
	top  int
	wave [16]uint64
}

func look(m *load.Meter) seen {
	s := seen{top: m.Top()}
	for _, x := range m.Row() {
		s.row += fmt.Sprintf("%016x ", math.Float64bits(x))
	}
	for i, x := range []float64{m.Sum(), m.Mean(), m.Spread()} {
		s.sums[i] = math.Float64bits(x)
	}
	for k, z := range m.Wave() {
		s.wave[2*k], s.wave[2*k+1] = math.Float64bits(real(z)), math.Float64bits(imag(z))
	}
	return s
}

// wantAlike asks that two meters tell the same of everything, to the bit.
func wantAlike(t *testing.T, what string, a, b *load.Meter) {
	t.Helper()
	if look(a) != look(b) {
		t.Fatalf("%s: %v and %v, %v and %v", what, a.Row(), b.Row(), a.Wave(), b.Wave())
	}
}

// wrongWeights are those that may not be.
func wrongWeights() []float64 {
	return []float64{
		-least, -1e-300, -0.5, -1, -1 << 40, -math.MaxFloat64, math.Inf(-1),
		math.Nextafter(1<<40, math.Inf(1)), 1<<40 + 1, 1 << 41, math.MaxFloat64, math.Inf(1),
		math.NaN(), math.Float64frombits(0xFFF8000000000000), math.Float64frombits(0x7FF0000000000001),
	}
}

// wrongTimes are those that may not be.
func wrongTimes() []int {
	return []int{math.MinInt, -1 << 40, -10, -2, -1, 1<<40 + 1, 1<<40 + 10, 1 << 41, math.MaxInt}
}

// wrongShards are those that a meter of so many does not have.
func wrongShards(shards int) []int {
	return []int{math.MinInt, -64, -2, -1, shards, shards + 1, shards + 64, 1 << 32, math.MaxInt}
}
