package dice_test

import (
	"fmt"
	"math"
	"math/big"
	"slices"
	"testing"

	"haulage/dice"
)

// P7.5: below 1 it is 0, and nothing is drawn.
func TestRollOfNothing(t *testing.T) {
	for _, seed := range edges() {
		d := dice.New(seed)
		for _, n := range []int{0, -1, -2, -6, math.MinInt, math.MinInt + 1} {
			want(t, "Roll", d.Roll(n), 0)
			want(t, "State", d.State(), seed)
		}
	}
}

// P7.5: of 1 and of powers of two the rest is 0, so each value will do, 0 too; the answer is its highest bits.
func TestRollOfPowersOfTwo(t *testing.T) {
	for shift := range 63 {
		for _, x := range numbers()[:300] {
			seed := seedFor(x)
			d := dice.New(seed)
			want(t, "Roll", d.Roll(1<<shift), int(x>>1>>(63-shift)))
			wantDrawn(t, "Roll", d, seed, 1)
		}
	}
}

// P7.5, P7.13: Roll is the chapter's words, and within its bounds.
func TestRoll(t *testing.T) {
	for _, n := range sides() {
		d, m := dice.New(uint64(n)), &model{state: uint64(n)}
		for range 40 {
			k := d.Roll(n)
			want(t, fmt.Sprintf("Roll(%d)", n), k, m.roll(n))
			want(t, "State", d.State(), m.state)
			if k < 0 || k >= n {
				t.Fatalf("Roll(%d): %d", n, k)
			}
		}
	}
}

// P7.5: a value whose low part is below the rest is passed over, and the next one counts.
func TestRollDrawsAgain(t *testing.T) {
	for _, row := range []struct {
		n int
		x uint64
	}{
		{3, 0}, {6, 0}, {5, 0}, {math.MaxInt, 0},
		{6, 3074457345618258603}, // its low part is 2, the rest 4
		{math.MaxInt - 1, 0},
	} {
		seed := seedFor(row.x)
		d, m := dice.New(seed), &model{state: seed}
		want(t, "Roll", d.Roll(row.n), m.roll(row.n))
		wantDrawn(t, "Roll", d, seed, 2)
	}
}

// third is the number of sides with the greatest rest: a value in three is drawn again.
const third = 6148914691236517206

// P7.5: 16 values are drawn at most, and of these the last one counts, whatever its low part is. The seeds are such that just so many values ahead are too low.
func TestRollDrawsSixteenAtMost(t *testing.T) {
	for _, row := range []struct{ low, seed, drawn uint64 }{
		{13, 0xD96A78131C728D56, 14},
		{14, 0x2A37FF019D4EBC1C, 15},
		{15, 0xD8332887B4DB4AC1, 16},
		{16, 0x36D58EDFEBF751B0, 16},
		{16, 0xE7941595BD4EC54F, 16},
		{17, 0x3259EAC3816F7A05, 16},
		{18, 0x3263BF4851E84F88, 16},
		{19, 0x4E6B8553CADC27D0, 16},
	} {
		d := dice.New(row.seed)
		k := d.Roll(third)
		wantDrawn(t, fmt.Sprintf("%d too low", row.low), d, row.seed, row.drawn)
		last := number(modelStir(row.seed + row.drawn*stride))
		high := last.Rsh(last.Mul(last, big.NewInt(third)), 64)
		want(t, "Roll", k, int(high.Int64()))
		m := &model{state: row.seed}
		want(t, "Roll", k, m.roll(third))
	}
}

// atOnce says whether a Roll that draws x first answers k behind that one draw.
func atOnce(x uint64, n, k int) bool {
	d := dice.New(seedFor(x))
	return d.Roll(n) == k && d.State() == seedFor(x)+stride
}

// someOf are places from 0 to n - 1: the first, the last, some between.
func someOf(n int) []int {
	all := []int{0, 1, 2, n / 3, n / 2, n - 3, n - 2, n - 1}
	all = slices.DeleteFunc(all, func(k int) bool { return k < 0 || k >= n })
	slices.Sort(all)
	return slices.Compact(all)
}

// P7.12: just 2^64 / n values, side by side, lead to k at once: the first and the last of them do, those around them don't.
func TestRollIsEven(t *testing.T) {
	for _, n := range sides() {
		side := big.NewInt(int64(n))
		share, rest := new(big.Int).DivMod(two64(), side, new(big.Int))
		for _, k := range someOf(n) {
			from := new(big.Int).Mul(big.NewInt(int64(k)), two64())
			from.Add(from, rest).Add(from, side).Sub(from, big.NewInt(1)).Div(from, side)
			to := new(big.Int).Add(from, share)
			first, last := from.Uint64(), new(big.Int).Sub(to, big.NewInt(1)).Uint64()
			if !atOnce(first, n, k) || !atOnce(last, n, k) || !atOnce(first+(last-first)/2, n, k) {
				t.Fatalf("Roll(%d): %d to %d don't answer %d at once", n, first, last, k)
			}
			if from.Sign() > 0 && atOnce(first-1, n, k) {
				t.Fatalf("Roll(%d): %d answers %d at once", n, first-1, k)
			}
			if to.Cmp(two64()) < 0 && atOnce(last+1, n, k) {
				t.Fatalf("Roll(%d): %d answers %d at once", n, last+1, k)
			}
		}
	}
}
