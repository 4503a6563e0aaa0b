package dice_test

import (
	"fmt"
	"math"
	"slices"
	"testing"

	"haulage/dice"
)

// P7.7: below 1 and above 65536 there is nothing, and nothing is drawn.
func TestShuffleOfNothing(t *testing.T) {
	d := dice.New(5)
	for _, n := range []int{0, -1, -65536, math.MinInt, 65537, 65538, 1 << 17, 1 << 32, 1<<32 + 5, math.MaxInt} {
		wantList(t, fmt.Sprintf("Shuffle(%d)", n), d.Shuffle(n))
		want(t, "State", d.State(), 5)
	}
}

// P7.7: of 1 there is one list, and nothing to roll for.
func TestShuffleOfOne(t *testing.T) {
	d := dice.New(5)
	wantList(t, "Shuffle(1)", d.Shuffle(1), 0)
	want(t, "State", d.State(), 5)
}

// P7.7: Shuffle is the chapter's words.
func TestShuffle(t *testing.T) {
	for n := range 100 {
		d, m := dice.New(uint64(n)), &model{state: uint64(n)}
		wantList(t, fmt.Sprintf("Shuffle(%d)", n), d.Shuffle(n), m.shuffle(n)...)
		want(t, "State", d.State(), m.state)
	}
}

// P7.7: a place's value that is too low is drawn again, as in Roll.
func TestShuffleDrawsAgain(t *testing.T) {
	seed := seedFor(0)
	d, m := dice.New(seed), &model{state: seed}
	wantList(t, "Shuffle(3)", d.Shuffle(3), m.shuffle(3)...)
	wantDrawn(t, "Shuffle(3)", d, seed, 3)
}

// P7.7, P7.13: each place once, in the longest list too, by as many rolls as there are places to fill but one.
func TestShuffleHasEachOnce(t *testing.T) {
	for _, n := range []int{1, 2, 3, 10, 1000, 65535, 65536} {
		d, rolled := dice.New(11), dice.New(11)
		list := d.Shuffle(n)
		wanted := slices.Clone(list)
		slices.Sort(wanted)
		want(t, "the length", len(list), n)
		for i, k := range wanted {
			want(t, "an element", k, i)
		}
		for i := n - 1; i >= 1; i-- {
			rolled.Roll(i + 1)
		}
		want(t, "State", d.State(), rolled.State())
	}
}

// P7.7: all orders come about, each about as often.
func TestShuffleToAllOrders(t *testing.T) {
	d, seen := dice.New(1), map[[4]int]int{}
	for range 24000 {
		seen[[4]int(d.Shuffle(4))]++
	}
	want(t, "orders", len(seen), 24)
	for order, times := range seen {
		if times < 850 || times > 1150 {
			t.Errorf("%v: %d times", order, times)
		}
	}
}
