package load_test

import "math/big"

// A second telling of the chapter. Each sum, product, quotient and root is reckoned in numbers of so many places that nothing is lost, and is then rounded to a real: so no machine's own way of reckoning is in it.

const places = 4000

func long(x float64) *big.Float { return new(big.Float).SetPrec(places).SetFloat64(x) }

func rounded(x *big.Float) float64 {
	real, _ := x.Float64()
	return real
}

func plus(a, b float64) float64 { return rounded(new(big.Float).SetPrec(places).Add(long(a), long(b))) }

func minus(a, b float64) float64 {
	return rounded(new(big.Float).SetPrec(places).Sub(long(a), long(b)))
}

func times(a, b float64) float64 {
	return rounded(new(big.Float).SetPrec(places).Mul(long(a), long(b)))
}

func over(a, b float64) float64 { return rounded(new(big.Float).SetPrec(places).Quo(long(a), long(b))) }

func root(a float64) float64 { return rounded(new(big.Float).SetPrec(places).Sqrt(long(a))) }

// toldHalf is a load that is halved so many times, of which the chapter says that 2200 are enough.
func toldHalf(x float64, by int) float64 {
	for range min(by, 2200) {
		x = times(x, 0.5)
	}
	return x
}

func toldSum(row []float64) float64 {
	sum := 0.0
	for _, x := range row {
		sum = plus(sum, x)
	}
	return sum
}

func toldMean(row []float64) float64 { return over(toldSum(row), float64(len(row))) }

func toldSpread(row []float64) float64 {
	mean, sum := toldMean(row), 0.0
	for _, x := range row {
		sum = plus(sum, times(minus(x, mean), minus(x, mean)))
	}
	return root(over(sum, float64(len(row))))
}

func toldTop(row []float64) int {
	for top, x := range row {
		greatest := true
		for _, y := range row {
			greatest = greatest && x >= y
		}
		if greatest {
			return top
		}
	}
	return -1
}

// The turns, their real parts and their imaginary parts apart.
const r = 0.7071067811865476

func turnReal(number int) float64 { return []float64{1, r, 0, -r, -1, -r, 0, r}[number] }

func turnImag(number int) float64 { return []float64{0, r, 1, r, 0, -r, -1, -r}[number] }

func toldWave(windows [8]float64) [8]complex128 {
	var wave [8]complex128
	for k := range wave {
		a, b := 0.0, 0.0
		for t := range 8 {
			a = plus(a, times(windows[t], turnReal(k*t%8)))
			b = plus(b, times(windows[t], turnImag(k*t%8)))
		}
		wave[k] = complex(a, b)
	}
	return wave
}
