package dice_test

import (
	"math"
	"testing"

	"haulage/api"
	"haulage/dice"
)

// P7.3: the state is the seed, and asking for it changes nothing.
func TestSeeds(t *testing.T) {
	for _, seed := range numbers() {
		d := dice.New(seed)
		want(t, "State", d.State(), seed)
		want(t, "State again", d.State(), seed)
	}
}

// P7.4: a value is the state, gone on by the stride, stirred.
func TestNext(t *testing.T) {
	for _, seed := range numbers() {
		d := dice.New(seed)
		for i := range uint64(5) {
			want(t, "Next", d.Next(), modelStir(seed+(i+1)*stride))
			wantDrawn(t, "Next", d, seed, i+1)
		}
	}
}

// P7.4, P7.11: Jump goes on by n strides, beyond 2^64 too, and Steps finds n again.
func TestJump(t *testing.T) {
	for _, seed := range edges() {
		for _, n := range edges() {
			d := dice.New(seed)
			d.Jump(n)
			m := model{state: seed}
			m.jump(n)
			want(t, "State", d.State(), m.state)
			want(t, "Steps", dice.Steps(seed, d.State()), n)
		}
	}
}

// P7.11: two jumps are one, and a jump is as many draws.
func TestJumpsAddUp(t *testing.T) {
	all := numbers()
	for i, m := range all {
		n := all[len(all)-1-i]
		two, one := dice.New(9), dice.New(9)
		two.Jump(m)
		two.Jump(n)
		one.Jump(m + n)
		want(t, "State behind two jumps", two.State(), one.State())
	}
	drawn := dice.New(9)
	for n := range uint64(1000) {
		jumped := dice.New(9)
		jumped.Jump(n)
		want(t, "State behind a jump", jumped.State(), drawn.State())
		want(t, "Next behind a jump", jumped.Next(), drawn.Next())
	}
}

// P7.10, P7.11: every value has one place from any seed on, at which it is drawn.
func TestValuesAreFoundAgain(t *testing.T) {
	for i, x := range numbers() {
		seed := uint64(i) * 0x123456789ABCDEF
		d := dice.New(seed)
		d.Jump(dice.Steps(seed, dice.Unmix(x)) - 1)
		want(t, "Next", d.Next(), x)
	}
}

// P7.10: so no value comes twice.
func TestNoValueTwice(t *testing.T) {
	d, seen := dice.New(3), map[uint64]bool{}
	for range 100000 {
		x := d.Next()
		if seen[x] {
			t.Fatalf("%d twice", x)
		}
		seen[x] = true
	}
}

// P7.9, P0.1: nil dice answer zero values, whatever is asked, and Pick ErrNil ahead of ErrArg.
func TestNilDice(t *testing.T) {
	var none *dice.Dice
	for _, n := range edges() {
		none.Jump(n)
		want(t, "Roll", none.Roll(int(n)), 0)
		wantList(t, "Shuffle", none.Shuffle(int(n)))
	}
	wantList(t, "Shuffle(5)", none.Shuffle(5))
	want(t, "Roll(6)", none.Roll(6), 0)
	want(t, "State", none.State(), 0)
	want(t, "Next", none.Next(), 0)
	want(t, "Real", none.Real(), 0)
	for _, weights := range [][]float64{nil, {}, {1}, {0, 1}, {0}, {-1}, {math.NaN()}, {math.Inf(1)}} {
		wantNoPick(t, "nil dice", none, weights, api.ErrNil)
	}
}
