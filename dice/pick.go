package dice

import (
	"math"

	"haulage/api"
)

// total is the sum of weights, and whether one can be picked from among them.
func total(weights []float64) (float64, bool) {
	sum := 0.0
	for _, w := range weights {
		if w < 0 || math.IsInf(w, 1) || math.IsNaN(w) {
			return 0, false
		}
		sum += w
	}
	return sum, sum > 0 && !math.IsInf(sum, 1)
}

// above is the first place up to which the weights' sum is above x. There may be none, where Real times a sum so small that it has few bits was rounded up to that sum: then it is the last place of a weight above 0.
func above(weights []float64, x float64) int {
	sum, last := 0.0, 0
	for i, w := range weights {
		sum += w
		if sum > x {
			return i
		}
		if w > 0 {
			last = i
		}
	}
	return last
}

// Pick: P7.8.
func (d *Dice) Pick(weights []float64) (int, api.Errno) {
	if d == nil {
		return 0, api.ErrNil
	}
	sum, ok := total(weights)
	if !ok {
		return 0, api.ErrArg
	}
	return above(weights, d.Real()*sum), api.OK
}
