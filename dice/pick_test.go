package dice_test

import (
	"math"
	"math/rand"
	"testing"

	"haulage/api"
	"haulage/dice"
)

// tiny is the least number above 0, great the greatest that is not infinite.
const (
	tiny  = math.SmallestNonzeroFloat64
	great = math.MaxFloat64
)

// most is the greatest Real, in 2^-53.
const most = 1<<53 - 1

// P7.8: what is refused, wherever the wrong weight stands; nothing is drawn.
func TestPickRefused(t *testing.T) {
	d := dice.New(4)
	for _, weights := range [][]float64{
		nil, {}, {0}, {0, 0, 0}, {minusZero}, {0, minusZero},
		{great, great}, {great, 0, great, 1}, {great, math.Ldexp(1, 970)},
	} {
		wantNoPick(t, "the sum", d, weights, api.ErrArg)
	}
	for _, w := range []float64{-1, -tiny, -great, math.NaN(), math.Inf(1), math.Inf(-1)} {
		for place := range 4 {
			weights := []float64{1, 0, 2, 3}
			weights[place] = w
			wantNoPick(t, "one weight", d, weights, api.ErrArg)
		}
		wantNoPick(t, "that weight alone", d, []float64{w}, api.ErrArg)
		wantNoPick(t, "with what makes up for it", d, []float64{w, -w, 1}, api.ErrArg)
		wantNoPick(t, "behind an infinite sum", d, []float64{great, great, w}, api.ErrArg)
	}
}

// P7.8: the first sum above Real times the sum decides; one value is drawn.
func TestPick(t *testing.T) {
	weights := []float64{1, 2, 0, 1}
	for _, row := range []struct {
		real  uint64
		place int
	}{
		{0, 0}, {1, 0}, {1<<51 - 1, 0},
		{1 << 51, 1}, {1<<52 - 1, 1}, {1<<52 + 1<<51 - 1, 1},
		{1<<52 + 1<<51, 3}, {most, 3},
	} {
		d := realOf(row.real)
		was := d.State()
		wantPick(t, "a Real", d, weights, row.place)
		wantDrawn(t, "Pick", d, was, 1)
	}
}

// P7.8, P7.13: noughts are never picked, ahead, behind or between; a single weight always is.
func TestPickPassesOverNoughts(t *testing.T) {
	for _, real := range []uint64{0, 1, 1 << 52, most - 1, most} {
		wantPick(t, "one", realOf(real), []float64{3}, 0)
		wantPick(t, "noughts around", realOf(real), []float64{0, 0, 3, 0, 0}, 2)
		wantPick(t, "noughts below 0", realOf(real), []float64{minusZero, 3, minusZero}, 1)
		wantPick(t, "the least", realOf(real), []float64{0, tiny, 0}, 1)
		wantPick(t, "the greatest", realOf(real), []float64{0, great, 0}, 1)
	}
	wantPick(t, "at 0", realOf(0), []float64{0, 1, 0, 1, 0}, 1)
	wantPick(t, "at the half", realOf(1<<52), []float64{0, 1, 0, 1, 0}, 3)
	wantPick(t, "at the end", realOf(most), []float64{0, 1, 0, 1, 0}, 3)
}

// P7.8: sums are made from the left, each rounded: small weights behind a great one are lost, those ahead of it are not.
func TestPickRoundsSums(t *testing.T) {
	small := math.Ldexp(1, -53)
	wantPick(t, "lost behind 1", realOf(most), []float64{1, small, small}, 0)
	wantPick(t, "kept ahead of 1", realOf(0), []float64{small, small, 1}, 0)
	wantPick(t, "kept ahead of 1", realOf(1), []float64{small, small, 1}, 1)
	wantPick(t, "kept ahead of 1", realOf(2), []float64{small, small, 1}, 2)
	wantPick(t, "behind the lost ones", realOf(1<<52), []float64{1, small, small, 1}, 3)
	wantPick(t, "tenths", realOf(1<<52), []float64{0.1, 0.2, 0.3}, 2)
	wantPick(t, "just below the greatest sum", realOf(most), []float64{great, math.Ldexp(1, 969)}, 0)
}

// P7.8: where no sum is above x, since x was rounded up to the whole sum, it is the last weight above 0.
func TestPickAtTheSum(t *testing.T) {
	half, quarters := uint64(1)<<52, uint64(3)<<51
	wantPick(t, "half, rounded to the even 0", realOf(half), []float64{0, tiny, 0}, 1)
	for _, real := range []uint64{half + 1, quarters, most} {
		wantPick(t, "one", realOf(real), []float64{tiny}, 0)
		wantPick(t, "noughts around", realOf(real), []float64{0, tiny, 0, minusZero}, 1)
	}
	for _, real := range []uint64{quarters, most} {
		wantPick(t, "two", realOf(real), []float64{0, tiny, 0, tiny, 0}, 3)
	}
	wantPick(t, "below", realOf(quarters-1), []float64{0, tiny, 0, tiny, 0}, 3)
	wantPick(t, "far below", realOf(half-1), []float64{0, tiny, 0, tiny, 0}, 3)
	wantPick(t, "a quarter, rounded to the even 0", realOf(half/2), []float64{0, tiny, 0, tiny, 0}, 1)
}

// P7.13: the place is one of a weight above 0, with weights of all kinds.
func TestPickIsOfAWeight(t *testing.T) {
	r := rand.New(rand.NewSource(13))
	for range 20000 {
		weights := someWeights(r)
		seed := someSeed(r)
		place, err := dice.New(seed).Pick(weights)
		if err == api.OK && (place < 0 || place >= len(weights) || !(weights[place] > 0)) {
			t.Fatalf("Pick(%v) with the seed %d: %d", weights, seed, place)
		}
	}
}

// P7.8: each place comes about as often as its weight says.
func TestPickByWeight(t *testing.T) {
	d, weights := dice.New(2), []float64{1, 0, 3, 0.5, 5.5}
	times := make([]int, len(weights))
	for range 20000 {
		place, _ := d.Pick(weights)
		times[place]++
	}
	for place, w := range weights {
		if wanted := 2000 * w; math.Abs(float64(times[place])-wanted) > 250 {
			t.Errorf("place %d: %d times, want some %v", place, times[place], wanted)
		}
	}
}

// scaled are all weights times 2^by.
func scaled(weights []float64, by int) []float64 {
	var all []float64
	for _, w := range weights {
		all = append(all, math.Ldexp(w, by))
	}
	return all
}

// P7.14: weights that are all doubled are picked alike, from the least to the greatest for which that is said.
func TestPickOfDoubledWeights(t *testing.T) {
	r := rand.New(rand.NewSource(14))
	for range 20000 {
		weights := make([]float64, 1+r.Intn(8))
		for i := range weights {
			weights[i] = math.Ldexp(float64(r.Intn(3))*(1+r.Float64())/4, r.Intn(60)-30)
		}
		weights[r.Intn(len(weights))] = 1
		seed := someSeed(r)
		wanted, _ := dice.New(seed).Pick(weights)
		for _, by := range []int{1, 2, -1, 800, 801, -800, -801} {
			wantPick(t, "doubled", dice.New(seed), scaled(weights, by), wanted)
		}
	}
}

// P7.14: at the bounds themselves.
func TestPickOfDoubledWeightsAtTheBounds(t *testing.T) {
	least, greatest := math.Ldexp(1, -900), math.Ldexp(1, 899)
	for _, weights := range [][]float64{
		{least}, {0, least, least}, {least, 0, 3 * least, 0},
		{greatest, greatest}, {least, greatest, 0, greatest}, {greatest, least, least, greatest / 3},
	} {
		for _, x := range numbers()[:300] {
			seed := seedFor(x)
			wanted, _ := dice.New(seed).Pick(weights)
			wantPick(t, "doubled", dice.New(seed), scaled(weights, 1), wanted)
		}
	}
}
