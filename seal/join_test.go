package seal_test

import (
	"math"
	"math/rand"
	"slices"
	"testing"

	"haulage/seal"
)

// round is how many bytes leave each register as it was.
const round = 1<<31 - 1

// P2.3: the sum of two texts, out of their sums; empty ones among them.
func TestJoin(t *testing.T) {
	d := rand.New(rand.NewSource(7))
	for _, a := range texts() {
		for _, n := range []int{0, 1, 2, d.Intn(300)} {
			b := someBytes(d, n)
			want(t, "Join", seal.Join(modelCRC(a), modelCRC(b), n), modelCRC(slices.Concat(a, b)))
			want(t, "Join", seal.Join(modelCRC(b), modelCRC(a), len(a)), modelCRC(slices.Concat(b, a)))
		}
	}
}

// P2.3: any numbers, step by step.
func TestJoinStepByStep(t *testing.T) {
	for _, a := range someNumbers() {
		r := a
		for n := range 300 {
			want(t, "Join", seal.Join(a, 0, n), r)
			want(t, "Join", seal.Join(a, ^a, n), r^^a)
			want(t, "Join", seal.Join(a, 0x12345678, n), r^0x12345678)
			r = modelSteps(r, 8)
		}
	}
}

// P2.3: b is held against it as it is, whatever n is.
func TestJoinOfNone(t *testing.T) {
	for _, b := range someNumbers() {
		want(t, "Join", seal.Join(0, b, 5), b)
		want(t, "Join", seal.Join(0, b, math.MaxInt), b)
		want(t, "Join", seal.Join(b, 0, 0), b)
	}
}

// lengths are numbers of bytes around the edges of what an int holds, and around those at which registers come round.
func lengths() []int {
	d := rand.New(rand.NewSource(8))
	all := []int{math.MaxInt, math.MaxInt - 1, math.MaxInt / 2, math.MaxInt/2 + 1, math.MaxInt / 8, math.MaxInt/8 + 1}
	for i := range 63 {
		all = append(all, 1<<i-1, 1<<i, 1<<i+1, d.Intn(1<<i))
	}
	for i := 1; i < 5; i++ {
		all = append(all, i*round-1, i*round, i*round+1)
	}
	return all
}

// P2.3, P2.4: lengths that no row of steps would reach.
func TestLongLengths(t *testing.T) {
	for _, n := range lengths() {
		for _, a := range []uint32{0, 1, 0x80000000, 0xFFFFFFFF, 0x364B3FB7} {
			want(t, "Join", seal.Join(a, 0x20EB33C7, n), modelPass(a, uint64(n))^0x20EB33C7)
			want(t, "Turn", seal.Turn(a, n, 3), modelPass(modelSteps(3, 8), uint64(n))^a)
		}
	}
}

// P2.3, P2.4: 2^31 - 1 bytes change no register, and the greatest int is a multiple of them and one.
func TestRound(t *testing.T) {
	for _, a := range someNumbers() {
		want(t, "Join", seal.Join(a, 0, round), a)
		want(t, "Join", seal.Join(a, 0, math.MaxInt), modelSteps(a, 8))
		want(t, "Turn", seal.Turn(a, round, 200), a^modelSteps(200, 8))
		want(t, "Turn", seal.Turn(a, math.MaxInt, 200), a^modelSteps(200, 16))
	}
}

// P2.3, P2.4: n below 0 counts as 0.
func TestLengthsBelowZero(t *testing.T) {
	for _, n := range []int{-1, -2, -3, -8, -64, -round, math.MinInt / 2, math.MinInt + 1, math.MinInt} {
		for _, a := range someNumbers() {
			want(t, "Join", seal.Join(a, 0x364B3FB7, n), a^0x364B3FB7)
			want(t, "Turn", seal.Turn(a, n, 77), a^modelSteps(77, 8))
		}
	}
}

// P2.4: a text, each byte of which is turned by each byte; at 0 nothing is.
func TestTurn(t *testing.T) {
	d := rand.New(rand.NewSource(9))
	for length := 1; length < 24; length++ {
		p := someBytes(d, length)
		plain := modelCRC(p)
		for place := range p {
			for by := range 256 {
				q := slices.Clone(p)
				q[place] ^= byte(by)
				want(t, "Turn", seal.Turn(plain, length-1-place, byte(by)), modelCRC(q))
			}
		}
	}
}

// P2.4: the first byte of long texts.
func TestTurnFarAhead(t *testing.T) {
	for _, p := range texts() {
		if len(p) > 0 {
			q := slices.Clone(p)
			q[0] ^= 0x81
			want(t, "Turn", seal.Turn(modelCRC(p), len(p)-1, 0x81), modelCRC(q))
		}
	}
}

// P2.4: any number is held against, as it is.
func TestTurnOfAnyNumber(t *testing.T) {
	for _, a := range someNumbers() {
		for by := range 256 {
			want(t, "Turn", seal.Turn(a, 0, byte(by)), a^modelSteps(uint32(by), 8))
			want(t, "Turn", seal.Turn(a, 5, byte(by)), a^modelSteps(uint32(by), 48))
		}
		want(t, "Turn by nothing", seal.Turn(a, 1000, 0), a)
	}
}
