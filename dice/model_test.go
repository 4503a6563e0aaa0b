package dice_test

import (
	"fmt"
	"math"
	"math/big"
	"math/rand"
	"slices"
	"testing"

	"haulage/api"
	"haulage/dice"
)

// cut is what is left of a number when what is 2^64 and above is cut off.
func cut(x *big.Int) *big.Int { return new(big.Int).Mod(x, two64()) }

// modelStir is x stirred, as the chapter tells it.
func modelStir(value uint64) uint64 {
	x := number(value)
	shift := func(by uint) { x.Xor(x, new(big.Int).Rsh(x, by)) }
	times := func(factor uint64) { x = cut(x.Mul(x, number(factor))) }
	shift(30)
	times(firstFactor)
	shift(27)
	times(secondFactor)
	shift(31)
	return x.Uint64()
}

// model are dice, as the chapter tells them, in numbers without bounds.
type model struct{ state uint64 }

func (m *model) jump(n uint64) {
	x := new(big.Int).Mul(number(n), number(stride))
	m.state = cut(x.Add(x, number(m.state))).Uint64()
}

func (m *model) draw() uint64 {
	m.jump(1)
	return modelStir(m.state)
}

func (m *model) roll(n int) int {
	if n < 1 {
		return 0
	}
	rest := new(big.Int).Mod(two64(), big.NewInt(int64(n)))
	for drawn := 1; ; drawn++ {
		whole := new(big.Int).Mul(number(m.draw()), big.NewInt(int64(n)))
		high, low := new(big.Int).DivMod(whole, two64(), new(big.Int))
		if low.Cmp(rest) >= 0 || drawn == 16 {
			return int(high.Int64())
		}
	}
}

func (m *model) real() *big.Rat {
	whole := new(big.Int).Div(number(m.draw()), big.NewInt(2048))
	return new(big.Rat).SetFrac(whole, new(big.Int).Lsh(big.NewInt(1), 53))
}

func (m *model) shuffle(n int) []int {
	if n < 1 || n > 65536 {
		return nil
	}
	var list []int
	for i := range n {
		list = append(list, i)
	}
	for i := n - 1; i >= 1; i-- {
		j := m.roll(i + 1)
		list[i], list[j] = list[j], list[i]
	}
	return list
}

// exactly is a real number without rounding.
func exactly(x float64) *big.Rat { return new(big.Rat).SetFloat64(x) }

// modelSums are the sums from the left to the right, each rounded from the exact one; none behind one that is infinite.
func modelSums(weights []float64) []float64 {
	var sums []float64
	sum := 0.0
	for _, w := range weights {
		sum, _ = new(big.Rat).Add(exactly(sum), exactly(w)).Float64()
		sums = append(sums, sum)
		if math.IsInf(sum, 0) {
			break
		}
	}
	return sums
}

func (m *model) pick(weights []float64) (int, api.Errno) {
	wrong := func(w float64) bool { return w < 0 || math.IsInf(w, 0) || w != w }
	if len(weights) == 0 || slices.ContainsFunc(weights, wrong) {
		return 0, api.ErrArg
	}
	sums := modelSums(weights)
	sum := sums[len(sums)-1]
	if sum == 0 || math.IsInf(sum, 0) {
		return 0, api.ErrArg
	}
	x, _ := new(big.Rat).Mul(m.real(), exactly(sum)).Float64()
	for place, s := range sums {
		if s > x {
			return place, api.OK
		}
	}
	last := 0
	for place, w := range weights {
		if w > 0 {
			last = place
		}
	}
	return last, api.OK
}

// someWeight is of any kind, most of them right.
func someWeight(d *rand.Rand) float64 {
	switch d.Intn(40) {
	case 0:
		return math.Float64frombits(d.Uint64()) // of any bits: often below 0, at times no number
	case 1, 2, 3:
		return minusZero
	case 4, 5, 6, 7, 8:
		return 0
	case 9, 10, 11, 12:
		return math.Float64frombits(d.Uint64() & 7) // so small that few bits are left
	case 13, 14:
		return math.Ldexp(1, -53-d.Intn(2)) // such that 1 is not changed by it
	case 15, 16, 17:
		return math.Float64frombits(d.Uint64() >> 2) // up to 2
	case 18, 19, 20:
		return float64(d.Intn(5))
	case 21:
		return math.Ldexp(d.Float64(), 1000)
	}
	return 1 + d.Float64()
}

// someWeights are of one kind or of many.
func someWeights(d *rand.Rand) []float64 {
	weights := make([]float64, d.Intn(9))
	few := d.Intn(3) == 0
	for i := range weights {
		weights[i] = someWeight(d)
		if few {
			weights[i] = math.Float64frombits(d.Uint64() % 4 * (d.Uint64() % 2))
		}
	}
	return weights
}

// someSeed is of any kind, often one whose next value is at an edge.
func someSeed(d *rand.Rand) uint64 {
	switch d.Intn(4) {
	case 0:
		return seedFor(d.Uint64() >> d.Intn(65)) // a small value
	case 1:
		return seedFor(^(d.Uint64() >> d.Intn(65))) // a great one
	case 2:
		return seedFor(d.Uint64() << d.Intn(65)) // one of few parts
	}
	return d.Uint64()
}

// act does one call with the dice and with the model.
func act(t *testing.T, d *rand.Rand, it *dice.Dice, m *model) {
	t.Helper()
	all := sides()
	switch d.Intn(6) {
	case 0:
		want(t, "Next", it.Next(), m.draw())
	case 1:
		n := d.Uint64() >> d.Intn(64)
		it.Jump(n)
		m.jump(n)
	case 2:
		n := all[d.Intn(len(all))]
		want(t, fmt.Sprintf("Roll(%d)", n), it.Roll(n), m.roll(n))
	case 3:
		x, _ := m.real().Float64()
		want(t, "Real", it.Real(), x)
	case 4:
		n := d.Intn(12) - 1
		wantList(t, fmt.Sprintf("Shuffle(%d)", n), it.Shuffle(n), m.shuffle(n)...)
	case 5:
		weights := someWeights(d)
		place, err := it.Pick(weights)
		wanted, wantedErr := m.pick(weights)
		want(t, fmt.Sprintf("Pick(%v)", weights), place, wanted)
		want(t, fmt.Sprintf("Pick(%v)", weights), err, wantedErr)
	}
	want(t, "State", it.State(), m.state)
}

// P7.3 to P7.8: dice do call by call what the chapter's words do.
func TestAgainstTheWords(t *testing.T) {
	d := rand.New(rand.NewSource(77))
	for range 4000 {
		seed := someSeed(d)
		it, m := dice.New(seed), &model{state: seed}
		for range 4 {
			act(t, d, it, m)
		}
	}
}
