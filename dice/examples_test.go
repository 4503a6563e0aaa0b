package dice_test

import (
	"math"
	"testing"

	"haulage/api"
	"haulage/dice"
)

// P7.1 to P7.4: the rows of "Examples" with values and states.
func TestExamplesOfValues(t *testing.T) {
	d := dice.New(0)
	want(t, "Next", d.Next(), 16294208416658607535)
	want(t, "Next", d.Next(), 7960286522194355700)
	want(t, "Next", d.Next(), 487617019471545679)

	d = dice.New(0)
	d.Jump(2)
	want(t, "Next behind Jump(2)", d.Next(), 487617019471545679)

	want(t, "Mix(0)", dice.Mix(0), 0)
	want(t, "Mix(1)", dice.Mix(1), 6238072747940578789)
	want(t, "Unmix", dice.Unmix(16294208416658607535), stride)

	want(t, "Steps", dice.Steps(0, stride), 1)
	want(t, "Steps", dice.Steps(5, 5), 0)
	want(t, "Steps", dice.Steps(stride, 0), math.MaxUint64)
}

// P7.5 to P7.8: the rows of "Examples" with what is made of values.
func TestExamplesOfRolls(t *testing.T) {
	d := dice.New(0)
	for _, k := range []int{5, 2, 0, 5, 0, 1, 1, 4} {
		want(t, "Roll(6)", d.Roll(6), k)
	}
	want(t, "Real", dice.New(0).Real(), 7956156453446585.0/(1<<53))
	wantList(t, "Shuffle(5)", dice.New(0).Shuffle(5), 2, 3, 0, 1, 4)
	wantPick(t, "the example", dice.New(0), []float64{1, 0, 1, 6}, 3)
}

// P7.5, P7.7, P7.8: the rows of "Examples" where nothing is drawn.
func TestExamplesOfNothing(t *testing.T) {
	d := dice.New(0)
	wantNoPick(t, "none", d, nil, api.ErrArg)
	wantNoPick(t, "noughts", d, []float64{0, 0}, api.ErrArg)
	wantNoPick(t, "below 0", d, []float64{1, -1}, api.ErrArg)
	wantNoPick(t, "a NaN", d, []float64{math.NaN()}, api.ErrArg)
	want(t, "State", d.State(), 0)

	want(t, "Roll(0)", d.Roll(0), 0)
	wantList(t, "Shuffle(0)", d.Shuffle(0))
	wantList(t, "Shuffle(65537)", d.Shuffle(65537))
	want(t, "State", d.State(), 0)
}
