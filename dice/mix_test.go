package dice_test

import (
	"testing"

	"haulage/dice"
)

// P7.1: Mix is the chapter's steps, reckoned in numbers without bounds.
func TestMix(t *testing.T) {
	for _, x := range numbers() {
		want(t, "Mix", dice.Mix(x), modelStir(x))
	}
}

// P7.1, P7.10: Unmix is the one number that is x when it is stirred, and both ways lead back.
func TestUnmix(t *testing.T) {
	for _, x := range numbers() {
		want(t, "Unmix", dice.Unmix(x), unstir(x))
		want(t, "Unmix, stirred", modelStir(dice.Unmix(x)), x)
		want(t, "Unmix(Mix)", dice.Unmix(dice.Mix(x)), x)
		want(t, "Mix(Unmix)", dice.Mix(dice.Unmix(x)), x)
	}
}

// P7.1: what a shift carries down is taken back wherever it came from, each bit by itself.
func TestUnmixOfBits(t *testing.T) {
	for high := range 64 {
		for low := range high {
			x := uint64(1)<<high | uint64(1)<<low
			want(t, "Unmix", dice.Unmix(x), unstir(x))
			want(t, "Mix(Unmix)", dice.Mix(dice.Unmix(x)), x)
		}
	}
}

// P7.2: from, gone on by so many strides, is to.
func TestSteps(t *testing.T) {
	all := edges()
	for _, from := range all {
		for _, to := range all {
			n := dice.Steps(from, to)
			want(t, "Steps", from+n*stride, to)
		}
	}
	for _, x := range numbers() {
		want(t, "Steps(x, x)", dice.Steps(x, x), 0)
		want(t, "Steps by one", dice.Steps(x, x+stride), 1)
		want(t, "Steps back by one", dice.Steps(x, x-stride), 1<<64-1)
		want(t, "Steps from 0", dice.Steps(0, x*stride), x)
	}
}
