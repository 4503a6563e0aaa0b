package dice_test

import (
	"math"
	"testing"

	"haulage/dice"
)

// P7.6: the value's highest 53 bits, times 2^-53, without rounding; one value is drawn.
func TestReal(t *testing.T) {
	for _, x := range numbers() {
		seed := seedFor(x)
		d, m := dice.New(seed), &model{state: seed}
		wanted, exact := m.real().Float64()
		if !exact {
			t.Fatalf("%d: a Real that is rounded", x)
		}
		want(t, "Real", d.Real(), wanted)
		wantDrawn(t, "Real", d, seed, 1)
	}
}

// P7.6, P7.13: from 0 on, and below 1: the values at the edges, and those at which one Real ends and the next begins.
func TestRealBounds(t *testing.T) {
	for _, row := range []struct {
		x    uint64
		real float64
	}{
		{0, 0},
		{2047, 0},
		{2048, math.Ldexp(1, -53)},
		{4095, math.Ldexp(1, -53)},
		{1<<63 - 1, 0.5 - math.Ldexp(1, -53)},
		{1 << 63, 0.5},
		{math.MaxUint64 - 2048, 1 - math.Ldexp(1, -52)},
		{math.MaxUint64 - 2047, 1 - math.Ldexp(1, -53)},
		{math.MaxUint64, 1 - math.Ldexp(1, -53)},
	} {
		x := dice.New(seedFor(row.x)).Real()
		want(t, "Real", x, row.real)
		if x < 0 || x >= 1 || math.Signbit(x) {
			t.Fatalf("Real of the value %d: %v", row.x, x)
		}
	}
}
