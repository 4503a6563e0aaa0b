package load_test

import (
	"fmt"
	"math"
	"math/rand"
	"testing"

	"haulage/api"
	"haulage/load"
)

// said is a call that went well; a Go has no shard, -1.
type said struct {
	shard  int
	now    int
	weight float64
}

// model keeps all that was said, and tells everything out of that anew each time.
type model struct {
	shards int
	half   int
	past   []said
}

func (m *model) clock() int {
	if len(m.past) == 0 {
		return 0
	}
	return m.past[len(m.past)-1].now
}

func (m *model) age(now int) int { return int(math.Floor(float64(now) / float64(m.half))) }

func (m *model) timeFault(now int) api.Errno {
	switch {
	case now < 0 || now > 1<<40:
		return api.ErrArg
	case now < m.clock():
		return api.ErrLoadTime
	}
	return api.OK
}

func (m *model) hit(shard, now int, weight float64) api.Errno {
	if shard < 0 || shard >= m.shards || math.IsNaN(weight) || weight < 0 || weight > 1<<40 {
		return api.ErrArg
	}
	err := m.timeFault(now)
	if err == api.OK {
		m.past = append(m.past, said{shard, now, weight})
	}
	return err
}

func (m *model) goOn(now int) api.Errno {
	err := m.timeFault(now)
	if err == api.OK {
		m.past = append(m.past, said{-1, now, 0})
	}
	return err
}

// load is what the Hits of one shard alone make of 0.
func (m *model) load(shard int) float64 {
	x, age := 0.0, 0
	for _, s := range m.past {
		if s.shard == shard {
			x, age = plus(toldHalf(x, m.age(s.now)-age), s.weight), m.age(s.now)
		}
	}
	return toldHalf(x, m.age(m.clock())-age)
}

func (m *model) row() []float64 {
	var row []float64
	for shard := range m.shards {
		row = append(row, m.load(shard))
	}
	return row
}

// windows are sums of the weights that were told in each age.
func (m *model) windows() [8]float64 {
	var windows [8]float64
	for i := range windows {
		for _, s := range m.past {
			if m.age(s.now) == m.age(m.clock())-7+i {
				windows[i] = plus(windows[i], s.weight)
			}
		}
	}
	return windows
}

// someWeight is one that may be: a round one, a common one, one of any size, or one of the least.
func someWeight(dice *rand.Rand) float64 {
	switch dice.Intn(7) {
	case 0:
		return []float64{0, math.Copysign(0, -1), least, 0x1p-1022, 1, 0.1, 1 << 40}[dice.Intn(7)]
	case 1:
		return float64(dice.Intn(100))
	case 2, 3:
		return dice.Float64()
	case 4:
		return dice.Float64() * (1 << 40)
	case 5:
		return math.Ldexp(dice.Float64(), 40-dice.Intn(1100))
	}
	return float64(dice.Intn(1000)) * least
}

// anyWeight is mostly one that may be.
func anyWeight(dice *rand.Rand) float64 {
	if wrong := wrongWeights(); dice.Intn(8) == 0 {
		return wrong[dice.Intn(len(wrong))]
	}
	return someWeight(dice)
}

// anyTime is mostly one from the clock on, near by; now and then one far off, too early, or one that may not be.
func anyTime(dice *rand.Rand, clock, half int) int {
	switch dice.Intn(24) {
	case 0:
		wrong := wrongTimes()
		return wrong[dice.Intn(len(wrong))]
	case 1:
		return clock - 1 - dice.Intn(half+1)
	case 2:
		return clock + half*dice.Intn(1200)
	case 3, 4, 5:
		return clock + half*dice.Intn(10)
	case 6, 7, 8:
		return clock - clock%half + half*dice.Intn(3)
	case 9, 10, 11:
		return clock
	}
	return clock + dice.Intn(half)
}

func wantModel(t *testing.T, what string, m *load.Meter, told *model) {
	t.Helper()
	row := told.row()
	wantRow(t, what, m, row...)
	wantReal(t, what+": Sum", m.Sum(), toldSum(row))
	wantReal(t, what+": Mean", m.Mean(), toldMean(row))
	wantReal(t, what+": Spread", m.Spread(), toldSpread(row))
	wantNum(t, what+": Top", m.Top(), toldTop(row))
	wantWave(t, what, m.Wave(), toldWave(told.windows()))
}

// P9.2 to P9.5, P9.9, P0.2, P0.3: rows of calls of all kinds come out as the second telling says, to the bit.
func TestModel(t *testing.T) {
	for seed := range int64(120) {
		dice := rand.New(rand.NewSource(seed))
		told := &model{shards: 1 + dice.Intn(4), half: []int{1, 2, 10, 1000, 1048576}[dice.Intn(5)]}
		m := fresh(t, told.shards, told.half)
		for step := range 30 {
			now, what := anyTime(dice, told.clock(), told.half), ""
			if dice.Intn(4) == 0 {
				what = fmt.Sprintf("seed %d, step %d: Go(%d)", seed, step, now)
				wantErr(t, what, m.Go(now), told.goOn(now))
			} else {
				shard, weight := dice.Intn(told.shards+1)-dice.Intn(8)/7, anyWeight(dice)
				what = fmt.Sprintf("seed %d, step %d: Hit(%d, %d, %v)", seed, step, shard, now, weight)
				wantErr(t, what, m.Hit(shard, now, weight), told.hit(shard, now, weight))
			}
			wantModel(t, what, m, told)
		}
	}
}
