package dice_test

import (
	"math"
	"math/big"
	"math/rand"
	"slices"
	"testing"

	"haulage/api"
	"haulage/dice"
)

// The numbers of the chapter's "Words".
const (
	stride       = 0x9E3779B97F4A7C15
	firstFactor  = 0xBF58476D1CE4E5B9
	secondFactor = 0x94D049BB133111EB
)

// minusZero is no constant that could be written.
var minusZero = math.Copysign(0, -1)

// want compares one answer.
func want[T int | uint64 | float64 | api.Errno](t *testing.T, what string, got, wanted T) {
	t.Helper()
	if got != wanted {
		t.Fatalf("%s: %v, want %v", what, got, wanted)
	}
}

// wantList compares a list; nil and empty are the same.
func wantList(t *testing.T, what string, got []int, wanted ...int) {
	t.Helper()
	if !slices.Equal(got, wanted) {
		t.Fatalf("%s: %v, want %v", what, got, wanted)
	}
}

// wantPick asks for a place among weights.
func wantPick(t *testing.T, what string, d *dice.Dice, weights []float64, wanted int) {
	t.Helper()
	place, err := d.Pick(weights)
	if place != wanted || err != api.OK {
		t.Fatalf("%s: Pick(%v): %d, error %d, want %d", what, weights, place, err, wanted)
	}
}

// wantNoPick asks for an error, for nothing beside it, and that nothing was drawn.
func wantNoPick(t *testing.T, what string, d *dice.Dice, weights []float64, wanted api.Errno) {
	t.Helper()
	was := d.State()
	place, err := d.Pick(weights)
	if place != 0 || err != wanted {
		t.Fatalf("%s: Pick(%v): %d, error %d, want error %d", what, weights, place, err, wanted)
	}
	want(t, what+": State", d.State(), was)
}

// wantDrawn asks how many values were drawn since a state.
func wantDrawn(t *testing.T, what string, d *dice.Dice, was, draws uint64) {
	t.Helper()
	want(t, what+": State", d.State(), was+draws*stride)
}

// two64 is 2^64.
func two64() *big.Int { return new(big.Int).Lsh(big.NewInt(1), 64) }

// number is a number without bounds.
func number(x uint64) *big.Int { return new(big.Int).SetUint64(x) }

// back is what a factor is turned about by.
func back(factor uint64) uint64 {
	return new(big.Int).ModInverse(number(factor), two64()).Uint64()
}

// unshift is the one number y for which y ^ y >> by is x, found bit by bit from the highest on.
func unshift(x uint64, by int) uint64 {
	var y uint64
	for bit := 63; bit >= 0; bit-- {
		b := x >> bit & 1
		if bit+by < 64 {
			b ^= y >> (bit + by) & 1
		}
		y |= b << bit
	}
	return y
}

// unstir is the one number that is x when it is stirred.
func unstir(x uint64) uint64 {
	x = unshift(x, 31) * back(secondFactor)
	x = unshift(x, 27) * back(firstFactor)
	return unshift(x, 30)
}

// seedFor is the state behind which x is drawn.
func seedFor(x uint64) uint64 { return unstir(x) - stride }

// realOf are dice whose Real is k times 2^-53.
func realOf(k uint64) *dice.Dice { return dice.New(seedFor(k << 11)) }

// edges are the numbers that the chapter names, and those around them.
func edges() []uint64 {
	all := []uint64{0, 1, 2, 3, stride - 1, stride, stride + 1, firstFactor, secondFactor, back(stride), back(stride) + 1, math.MaxUint64, math.MaxUint64 - 1}
	for shift := range 64 {
		all = append(all, 1<<shift, 1<<shift-1, -(1 << shift))
	}
	return all
}

// numbers are the edges, and some of any kind.
func numbers() []uint64 {
	d := rand.New(rand.NewSource(7))
	all := edges()
	for range 2000 {
		all = append(all, d.Uint64()>>d.Intn(64))
	}
	return all
}

// sides are numbers for Roll: small ones, powers of two and those around them, those whose rest is great, the greatest.
func sides() []int {
	var all []int
	for n := range 70 {
		all = append(all, n+1)
	}
	for shift := 6; shift < 63; shift++ {
		all = append(all, 1<<shift-1, 1<<shift, 1<<shift+1)
	}
	for _, parts := range []uint64{3, 4, 5, 7, 100} {
		share := int(math.MaxUint64 / parts)
		all = append(all, share-1, share, share+1, share+2)
	}
	return append(all, 1000000007, math.MaxInt-2, math.MaxInt-1, math.MaxInt)
}
