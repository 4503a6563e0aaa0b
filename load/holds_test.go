package load_test

import (
	"fmt"
	"math"
	"math/rand"
	"testing"

	"haulage/api"
	"haulage/load"
)

// used is a meter that has been told many things, and its clock.
func used(t *testing.T, dice *rand.Rand, shards, half int) (*load.Meter, int) {
	m, clock := fresh(t, shards, half), 0
	for range dice.Intn(40) {
		clock += dice.Intn(2*half + 1)
		hit(t, m, dice.Intn(shards), clock, someWeight(dice))
	}
	return m, clock
}

// twice is a meter of which there is another one, told the same.
func twice(t *testing.T, seed int64, shards, half int) (a, b *load.Meter, clock int) {
	a, clock = used(t, rand.New(rand.NewSource(seed)), shards, half)
	b, _ = used(t, rand.New(rand.NewSource(seed)), shards, half)
	wantAlike(t, "two meters that were told the same", a, b)
	return a, b, clock
}

// P9.8: by k whole half lives each load is halved k times, from whatever time on.
func TestWholeHalfLives(t *testing.T) {
	dice := rand.New(rand.NewSource(8))
	for _, half := range []int{1, 2, 10, 97, 1048576} {
		for _, k := range []int{0, 1, 2, 7, 8, 9, 100, 1060, 1074, 1075, 1115, 2200, 5000} {
			m, clock := used(t, dice, 5, half)
			row := m.Row()
			goOn(t, m, clock+k*half)
			for i, x := range row {
				row[i] = toldHalf(x, k)
			}
			wantRow(t, fmt.Sprintf("half life %d, from %d on by %d of them", half, clock, k), m, row...)
		}
	}
}

// P9.8: going on in two goes, in many, or in one is the same for loads and windows.
func TestInTwoGoes(t *testing.T) {
	dice := rand.New(rand.NewSource(88))
	for seed := range int64(300) {
		half := 1 + dice.Intn(12)
		one, two, clock := twice(t, seed, 4, half)
		ways := []int{half, 9 * half, 1200 * half}
		end := clock + dice.Intn(ways[dice.Intn(3)]+1)
		goOn(t, one, end)
		for clock < end {
			clock += 1 + dice.Intn(end-clock)
			goOn(t, two, clock)
		}
		wantAlike(t, fmt.Sprintf("seed %d: in one go and in several", seed), one, two)
	}
}

// P9.8: and one time behind the other it is the same, too.
func TestTimeByTime(t *testing.T) {
	one, many := laden(t, 3, 47*least, 0.1, 1<<40), laden(t, 3, 47*least, 0.1, 1<<40)
	for now := range 3600 {
		goOn(t, many, now)
		if now%97 == 0 || now < 40 {
			goOn(t, one, now)
			wantAlike(t, fmt.Sprintf("at %d", now), one, many)
		}
	}
}

// P9.9: the load of a shard is what it would be, if all Hits of other shards had been Goes to the same times.
func TestApart(t *testing.T) {
	dice := rand.New(rand.NewSource(99))
	for range 200 {
		shards, half := 2+dice.Intn(5), 1+dice.Intn(10)
		all := fresh(t, shards, half)
		alone := make([]*load.Meter, shards)
		for i := range alone {
			alone[i] = fresh(t, shards, half)
		}
		clock := 0
		for range 40 {
			clock += dice.Intn(2 * half)
			shard, weight := dice.Intn(shards), someWeight(dice)
			hit(t, all, shard, clock, weight)
			for i, m := range alone {
				if i == shard {
					hit(t, m, i, clock, weight)
				} else {
					goOn(t, m, clock)
				}
			}
		}
		for i, m := range alone {
			wantReal(t, fmt.Sprintf("the load of shard %d", i), all.Of(i), m.Of(i))
		}
	}
}

// P9.9: Goes between the Hits change nothing, as long as they tell no later time than the next Hit.
func TestGoesBetween(t *testing.T) {
	dice := rand.New(rand.NewSource(90))
	a, b, clock := fresh(t, 3, 10), fresh(t, 3, 10), 0
	for range 500 {
		next := clock + dice.Intn(25)
		goOn(t, b, clock+dice.Intn(next-clock+1))
		shard, weight := dice.Intn(3), someWeight(dice)
		hit(t, a, shard, next, weight)
		hit(t, b, shard, next, weight)
		clock = next
	}
	wantAlike(t, "with Goes and without", a, b)
}

// wantBounds asks that nothing is below 0, and that all of it is a number.
func wantBounds(t *testing.T, m *load.Meter) {
	t.Helper()
	reals := append(m.Row(), m.Sum(), m.Mean(), m.Spread(), real(m.Wave()[0]))
	for i, x := range reals {
		if !(x >= 0) || math.IsInf(x, 0) {
			t.Fatalf("real %d of loads, Sum, Mean, Spread and the sum of windows is %v", i, x)
		}
	}
	for k, z := range m.Wave() {
		if math.IsNaN(real(z)) || math.IsNaN(imag(z)) {
			t.Fatalf("entry %d is %v", k, z)
		}
	}
}

// P9.10: loads, windows, Sum, Mean and Spread are never below 0, and no NaN.
func TestBounds(t *testing.T) {
	dice := rand.New(rand.NewSource(10))
	for range 200 {
		m, clock := used(t, dice, 1+dice.Intn(64), 1+dice.Intn(10))
		wantBounds(t, m)
		for range 20 {
			clock += dice.Intn(2000)
			goOn(t, m, clock)
			wantBounds(t, m)
		}
	}
	m := fresh(t, 64, 1048576)
	for range 1000 {
		for shard := range 64 {
			hit(t, m, shard, 0, 1<<40)
		}
	}
	wantBounds(t, m)
	wantReal(t, "the Sum of 64000 greatest weights", m.Sum(), 64000*0x1p40)
	wantReal(t, "their Mean", m.Mean(), 1000*0x1p40)
	wantReal(t, "their Spread", m.Spread(), 0)
}

// P9.10: if all loads are 0, so are Sum, Mean, Spread and Top: at first, behind weights of 0, and at the end.
func TestAllZero(t *testing.T) {
	for _, shards := range []int{1, 2, 3, 64} {
		m := fresh(t, shards, 7)
		check := func(what string) {
			t.Helper()
			wantRow(t, what, m, make([]float64, shards)...)
			wantReal(t, what+": Sum", m.Sum(), 0)
			wantReal(t, what+": Mean", m.Mean(), 0)
			wantReal(t, what+": Spread", m.Spread(), 0)
			wantNum(t, what+": Top", m.Top(), 0)
		}
		check("at first")
		for shard := range shards {
			hit(t, m, shard, 2, 0)
			hit(t, m, shard, 2, math.Copysign(0, -1))
		}
		check("behind weights of 0")
		hit(t, m, shards-1, 3, 1<<40)
		goOn(t, m, 7*1115)
		check("when all has come to 0")
		goOn(t, m, api.MaxTime)
		check("at MaxTime")
	}
}
