package keys

import (
	"bytes"
	"cmp"
	"math"
	"slices"

	"haulage/api"
)

// oneNaN stands for the bits of every NaN, so that all of them have one place.
const oneNaN = 0x7FF8000000000000

// sign is the highest bit of a number.
const sign = 1 << 63

// placeOfBool is 0 of false, which comes first.
func placeOfBool(b bool) byte {
	if b {
		return 1
	}
	return 0
}

// placeOfInt puts the ints below 0 ahead of the others.
func placeOfInt(n int64) uint64 { return uint64(n) ^ sign }

// intAt is placeOfInt's way back.
func intAt(place uint64) int64 { return int64(place ^ sign) }

// placeOfReal is where a real number stands among all of them: the bits of one without a sign rise with it, those of one with a sign fall.
func placeOfReal(x float64) uint64 {
	bits := math.Float64bits(x)
	if math.IsNaN(x) {
		bits = oneNaN
	}
	if bits&sign == 0 {
		return bits ^ sign
	}
	return ^bits
}

// realAt is placeOfReal's way back; at the places where no number is, it answers a NaN of whatever bits.
func realAt(place uint64) float64 {
	if place&sign == 0 {
		return math.Float64frombits(^place)
	}
	return math.Float64frombits(place ^ sign)
}

// compareReals goes by the places, since == takes -0 for 0, and no NaN for itself.
func compareReals(a, b float64) int {
	return cmp.Compare(placeOfReal(a), placeOfReal(b))
}

// comparePoints asks the imaginary parts only where the real ones are the same.
func comparePoints(a, b complex128) int {
	return cmp.Or(compareReals(real(a), real(b)), compareReals(imag(a), imag(b)))
}

// compareValues holds two values against each other, of kinds that there are.
func compareValues(a, b api.Value) int {
	if a.Kind != b.Kind {
		return cmp.Compare(a.Kind, b.Kind)
	}
	switch a.Kind {
	case api.KeyBool:
		return cmp.Compare(placeOfBool(a.Bool), placeOfBool(b.Bool))
	case api.KeyInt:
		return cmp.Compare(a.Int, b.Int)
	case api.KeyReal:
		return compareReals(a.Real, b.Real)
	case api.KeyPoint:
		return comparePoints(a.Point, b.Point)
	case api.KeyText:
		return bytes.Compare(a.Text, b.Text)
	case api.KeyTuple:
		return compareRows(a.Parts, b.Parts)
	}
	return 0
}

// compareRows holds two good rows against each other.
func compareRows(a, b []api.Value) int {
	return slices.CompareFunc(a, b, compareValues)
}
