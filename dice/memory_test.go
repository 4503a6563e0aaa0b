package dice_test

import (
	"math"
	"slices"
	"testing"

	"haulage/api"
	"haulage/dice"
)

// same says whether two lists of weights have the very same bits.
func same(a, b []float64) bool {
	return slices.EqualFunc(a, b, func(x, y float64) bool { return math.Float64bits(x) == math.Float64bits(y) })
}

// P7.15, P0.4: weights stay as they were, the room behind them too, right ones and wrong ones.
func TestWeightsAreNotChanged(t *testing.T) {
	for _, whole := range [][]float64{
		{minusZero, 0.1, minusZero, 7, minusZero, 1},
		{3, 1, math.NaN(), 2, 1, 1},
		{great, great, 0, 4, math.Inf(1), -1},
		{0, 0, 0, 0, 5, 5},
	} {
		was := slices.Clone(whole)
		d := dice.New(1)
		for range 50 {
			d.Pick(whole[:4])
			d.Pick(whole[:0])
		}
		if !same(whole, was) {
			t.Fatalf("%v was changed to %v", was, whole)
		}
	}
}

// P7.15: they are not kept: what is picked next hangs on what is handed in next.
func TestWeightsAreNotKept(t *testing.T) {
	d, weights := dice.New(1), []float64{0, 0, 1}
	wantPick(t, "ahead", d, weights, 2)
	clear(weights)
	wantNoPick(t, "noughts", d, weights, api.ErrArg)
	weights[1] = 1
	for range 20 {
		wantPick(t, "behind", d, weights, 1)
		wantPick(t, "another list", d, []float64{1}, 0)
	}
}

// P7.15, P0.4: a list is the caller's own, the room behind it too.
func TestListsAreNew(t *testing.T) {
	for _, n := range []int{1, 5, 100} {
		d := dice.New(8)
		list := d.Shuffle(n)
		state, was := d.State(), slices.Clone(list)
		other := dice.New(8).Shuffle(n)
		list = list[:cap(list)]
		for i := range list {
			list[i] = -77
		}
		wantList(t, "the list of other dice", other, was...)
		wantList(t, "the list made again", dice.New(8).Shuffle(n), was...)
		want(t, "State", d.State(), state)
		next := &model{state: state}
		wantList(t, "the next list", d.Shuffle(n), next.shuffle(n)...)
	}
}

// P7.15: two dice know nothing of each other, be they of one seed or not.
func TestTwoDice(t *testing.T) {
	for _, seeds := range [][2]uint64{{0, 0}, {3, 3}, {3, 3 + stride}, {stride, 7}} {
		a, b := dice.New(seeds[0]), dice.New(seeds[1])
		m, n := &model{state: seeds[0]}, &model{state: seeds[1]}
		for i := range 50 {
			want(t, "Next", a.Next(), m.draw())
			want(t, "State of the other", b.State(), n.state)
			wantList(t, "Shuffle", b.Shuffle(i), n.shuffle(i)...)
			want(t, "State of the other", a.State(), m.state)
			want(t, "Roll", a.Roll(i), m.roll(i))
			place, _ := b.Pick([]float64{1, 2, 3})
			wanted, _ := n.pick([]float64{1, 2, 3})
			want(t, "Pick", place, wanted)
			b.Jump(uint64(i))
			n.jump(uint64(i))
		}
	}
}
