package load_test

import (
	"fmt"
	"math"
	"math/rand"
	"slices"
	"testing"
)

// P9.3: Of answers the load of a shard, and 0 of what is none.
func TestOf(t *testing.T) {
	m := laden(t, 10, 8, 3, 5)
	wantReal(t, "Of(0)", m.Of(0), 8)
	wantReal(t, "Of(1)", m.Of(1), 3)
	wantReal(t, "Of(2)", m.Of(2), 5)
	for _, shard := range wrongShards(3) {
		wantReal(t, fmt.Sprintf("Of(%d)", shard), m.Of(shard), 0)
	}
}

// P9.3: Row has all loads by rising shards, the zeros too.
func TestRow(t *testing.T) {
	m := fresh(t, 64, 10)
	wanted := make([]float64, 64)
	for shard := 63; shard >= 0; shard -= 3 {
		wanted[shard] = float64(shard) + 0.5
		hit(t, m, shard, 0, wanted[shard])
	}
	wantRow(t, "64 shards", m, wanted...)
}

// P9.3: Sum is added up by rising shards, rounded one by one: the same loads in another order have another sum.
func TestSum(t *testing.T) {
	const u = 0x1p-13 // half of what a real near 2^40 tells apart
	sums := []struct {
		row []float64
		sum float64
	}{
		{[]float64{7}, 7},
		{[]float64{9, 0, 4}, 13},
		{[]float64{0.1, 0.2, 0.3}, 0.6000000000000001},
		{[]float64{0.3, 0.2, 0.1}, 0.6},
		{[]float64{1 << 40, u, u, u, u}, 1 << 40},
		{[]float64{u, u, u, u, 1 << 40}, 0x1p40 + 4*u},
		{[]float64{u, 1 << 40, u, u, u}, 1 << 40},
		{[]float64{u, u, 1 << 40, 0, u / 2}, 0x1p40 + 2*u},
		{[]float64{least, least, 2 * least}, 4 * least},
	}
	for _, c := range sums {
		m := laden(t, 1, c.row...)
		wantReal(t, fmt.Sprintf("Sum of %v", c.row), m.Sum(), c.sum)
		wantReal(t, fmt.Sprintf("Mean of %v", c.row), m.Mean(), c.sum/float64(len(c.row)))
	}
}

// P9.3: Mean is the sum divided by all shards, those with nothing too, rounded once.
func TestMean(t *testing.T) {
	means := []struct {
		row  []float64
		mean float64
	}{
		{[]float64{7}, 7},
		{[]float64{9, 0, 4}, 4.333333333333333},
		{[]float64{1, 0, 0}, 0.3333333333333333},
		{[]float64{0, 0, 0, 0, 0, 0, 10}, 1.4285714285714286},
		{[]float64{least, 0}, 0},
		{[]float64{least, 2 * least}, 2 * least},
		{[]float64{5, 0, 0, 0, 0, 0, 0, 0, 0, 0}, 0.5},
	}
	for _, c := range means {
		wantReal(t, fmt.Sprintf("Mean of %v", c.row), laden(t, 1, c.row...).Mean(), c.mean)
	}
}

// P9.4: Spread is the root of the mean of the squares.
func TestSpread(t *testing.T) {
	spreads := []struct {
		row    []float64
		spread float64
	}{
		{[]float64{7}, 0},
		{[]float64{7, 7, 7}, 0},
		{[]float64{1, 3}, 1},
		{[]float64{3, 1}, 1},
		{[]float64{0, 8}, 4},
		{[]float64{2, 4, 4, 4, 5, 5, 7, 9}, 2},
		{[]float64{9, 0, 4}, 3.6817870057290873},
		{[]float64{0, 1 << 40}, 1 << 39},
		{[]float64{0, 0x1p-538}, 0}, // either square is 2^-1078, and is rounded to 0
	}
	for _, c := range spreads {
		wantReal(t, fmt.Sprintf("Spread of %v", c.row), laden(t, 1, c.row...).Spread(), c.spread)
	}
}

// P9.3, P9.4: rows of many kinds of loads, to the bit, against sums that are reckoned without loss and rounded one by one.
func TestSumsToTheBit(t *testing.T) {
	dice := rand.New(rand.NewSource(9))
	for range 300 {
		row := make([]float64, 1+dice.Intn(64))
		for i := range row {
			row[i] = someWeight(dice)
		}
		m := laden(t, 1, row...)
		for i := range row {
			row[i] += 0 // -0 has become 0
		}
		wantRow(t, "loads", m, row...)
		wantReal(t, fmt.Sprintf("Sum of %v", row), m.Sum(), toldSum(row))
		wantReal(t, fmt.Sprintf("Mean of %v", row), m.Mean(), toldMean(row))
		wantReal(t, fmt.Sprintf("Spread of %v", row), m.Spread(), toldSpread(row))
		wantNum(t, fmt.Sprintf("Top of %v", row), m.Top(), toldTop(row))
	}
}

// P9.4: a row whose squares, held exactly while they are added, would have another Spread.
func TestSquaresAreRounded(t *testing.T) {
	dice := rand.New(rand.NewSource(4))
	unlike := 0
	for range 200 {
		row := []float64{dice.Float64(), dice.Float64(), dice.Float64(), dice.Float64(), dice.Float64()}
		wanted := toldSpread(row)
		wantReal(t, fmt.Sprintf("Spread of %v", row), laden(t, 1, row...).Spread(), wanted)
		sum, mean := 0.0, toldMean(row)
		for _, x := range row {
			sum = math.FMA(x-mean, x-mean, sum)
		}
		if math.Sqrt(sum/5) != wanted {
			unlike++
		}
	}
	if unlike < 10 {
		t.Fatalf("only %d rows tell rounded squares from exact ones", unlike)
	}
}

// P9.4: Top is the greatest load's shard, of equal ones the least; 0 if there are none.
func TestTop(t *testing.T) {
	tops := []struct {
		row []float64
		top int
	}{
		{[]float64{0}, 0},
		{[]float64{5}, 0},
		{[]float64{0, 0, 0}, 0},
		{[]float64{0, 1, 0}, 1},
		{[]float64{0, 0, least}, 2},
		{[]float64{1, 2, 3}, 2},
		{[]float64{3, 2, 1}, 0},
		{[]float64{1, 3, 2, 3}, 1},
		{[]float64{3, 3, 3}, 0},
		{[]float64{0, 2, 2}, 1},
		{[]float64{1, math.Nextafter(1, 2), 1}, 1},
		{[]float64{1 << 40, 1 << 40}, 0},
	}
	for _, c := range tops {
		wantNum(t, fmt.Sprintf("Top of %v", c.row), laden(t, 1, c.row...).Top(), c.top)
	}
	last := make([]float64, 64)
	last[63] = 1
	wantNum(t, "Top of 64", laden(t, 1, last...).Top(), 63)
}

// P9.4: Top is of the loads that there are now.
func TestTopChanges(t *testing.T) {
	m := laden(t, 10, 0, 8, 0)
	wantNum(t, "Top", m.Top(), 1)
	goOn(t, m, 20)
	hit(t, m, 2, 20, 3)
	wantNum(t, "Top behind two half lives", m.Top(), 2)
	hit(t, m, 0, 20, 3)
	wantNum(t, "Top of equal ones", m.Top(), 0)
	goOn(t, m, 20000)
	wantNum(t, "Top of none", m.Top(), 0)
}

// P9.3, P9.4: whoever asks changes nothing.
func TestAskingChangesNothing(t *testing.T) {
	m := midway(t)
	was := look(m)
	for range 3 {
		if look(m) != was {
			t.Fatal("asking has changed something")
		}
	}
	wantClock(t, "asked", m, 25)
	row := m.Row()
	if !slices.Equal(row, []float64{4, 3, 5}) {
		t.Fatalf("Row: %v", row)
	}
}
