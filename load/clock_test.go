package load_test

import (
	"fmt"
	"testing"

	"haulage/api"
	"haulage/load"
)

// Words: within one age nothing is halved and no window moves.
func TestWithinAnAge(t *testing.T) {
	m := laden(t, 10, 8, 3)
	for _, now := range []int{0, 1, 5, 9, 9} {
		goOn(t, m, now)
		wantRow(t, fmt.Sprintf("at %d", now), m, 8, 3)
		wantWindows(t, fmt.Sprintf("at %d", now), m, 0, 0, 0, 0, 0, 0, 0, 11)
		wantClock(t, fmt.Sprintf("at %d", now), m, now)
	}
}

// Words: what counts is the age of the times, not how far they are from one another.
func TestAgesNotDistances(t *testing.T) {
	m := fresh(t, 1, 10)
	hit(t, m, 0, 9, 8)
	goOn(t, m, 10)
	wantRow(t, "9 to 10", m, 4)
	goOn(t, m, 19)
	wantRow(t, "10 to 19", m, 4)
	goOn(t, m, 30)
	wantRow(t, "19 to 30", m, 1)
}

// Words: by k ages each load is halved k times, and the windows move to the front by k places.
func TestAges(t *testing.T) {
	windows := []float64{1, 2, 4, 8, 16, 32, 64, 128}
	for _, by := range []int{0, 1, 2, 3, 6, 7, 8, 9, 10, 15, 16, 17, 100, 1000} {
		for _, rest := range []int{0, 9} {
			m := fresh(t, 2, 10)
			for i, weight := range windows {
				hit(t, m, i%2, 10*i, weight)
			}
			wantWindows(t, "eight ages", m, windows...)
			a, b := m.Of(0), m.Of(1)
			goOn(t, m, 70+10*by+rest)
			what := fmt.Sprintf("by %d ages and %d", by, rest)
			wantRow(t, what, m, toldHalf(a, by), toldHalf(b, by))
			moved := make([]float64, 8)
			for i := by; i < 8; i++ {
				moved[i-by] = windows[i]
			}
			wantWindows(t, what, m, moved...)
		}
	}
}

// Words: windows of ages below 0 are 0; the first ages fill the last windows.
func TestFirstAges(t *testing.T) {
	m := fresh(t, 1, 100)
	hit(t, m, 0, 99, 1)
	wantWindows(t, "age 0", m, 0, 0, 0, 0, 0, 0, 0, 1)
	hit(t, m, 0, 100, 2)
	wantWindows(t, "age 1", m, 0, 0, 0, 0, 0, 0, 1, 2)
	hit(t, m, 0, 399, 3)
	wantWindows(t, "age 3", m, 0, 0, 0, 0, 1, 2, 0, 3)
	hit(t, m, 0, 700, 4)
	wantWindows(t, "age 7", m, 1, 2, 0, 3, 0, 0, 0, 4)
	hit(t, m, 0, 899, 5)
	wantWindows(t, "age 8", m, 2, 0, 3, 0, 0, 0, 4, 5)
}

// Words: windows are not halved, whatever becomes of the loads; they are sums of weights of all shards.
func TestWindowsStayWhole(t *testing.T) {
	m := fresh(t, 3, 1)
	hit(t, m, 0, 0, 1)
	hit(t, m, 2, 0, 0.5)
	goOn(t, m, 7)
	wantRow(t, "seven ages on", m, 0x1p-7, 0, 0x1p-8)
	wantWindows(t, "seven ages on", m, 1.5, 0, 0, 0, 0, 0, 0, 0)
	goOn(t, m, 8)
	wantRow(t, "eight ages on", m, 0x1p-8, 0, 0x1p-9)
	wantWindows(t, "eight ages on", m, 0, 0, 0, 0, 0, 0, 0, 0)
}

// Words: the loads are halved one time behind the other, each time rounded: among the least reals that is not what one division brings.
func TestHalvedOneByOne(t *testing.T) {
	// 11 least ones: 5.5 is rounded to 6, 3, 1.5 to 2, 1, 0.5 to 0. An eighth of 11 at once would be 1.
	rows := map[int][]float64{
		1:  {1, 0},
		3:  {3, 2, 1, 0},
		5:  {5, 2, 1, 0},
		7:  {7, 4, 2, 1, 0},
		11: {11, 6, 3, 2, 1, 0},
		13: {13, 6, 3, 2, 1, 0},
		// At once it would be 47, 24, 12, 6, 3, 1, 1, 0.
		47: {47, 24, 12, 6, 3, 2, 1, 0},
	}
	for first, row := range rows {
		m := fresh(t, 1, 1)
		hit(t, m, 0, 0, float64(first)*least)
		for age, wanted := range row {
			goOn(t, m, age)
			wantRow(t, fmt.Sprintf("%d least ones, halved %d times", first, age), m, wanted*least)

			once := fresh(t, 1, 1)
			hit(t, once, 0, 0, float64(first)*least)
			goOn(t, once, age)
			wantRow(t, fmt.Sprintf("%d least ones, halved %d times in one go", first, age), once, wanted*least)
		}
	}
}

// Words: loads come to 0 at the right time, neither sooner nor later.
func TestDownToZero(t *testing.T) {
	ends := map[float64]int{1 << 40: 1115, 1: 1075, 0x1p-1022: 53, 3 * least: 3, least: 1}
	for weight, end := range ends {
		m := fresh(t, 1, 1000)
		hit(t, m, 0, 999, weight)
		goOn(t, m, 1000*end-1)
		wantRow(t, fmt.Sprintf("%v, halved %d times", weight, end-1), m, least)
		goOn(t, m, 1000*end)
		wantRow(t, fmt.Sprintf("%v, halved %d times", weight, end), m, 0)

		m = fresh(t, 1, 1000)
		hit(t, m, 0, 999, weight)
		goOn(t, m, 1000*end+999)
		wantRow(t, fmt.Sprintf("%v, halved %d times in one go", weight, end), m, 0)
	}
}

// Words: thousands of half lives at once, up to all that there are: the loads are 0, and so are the windows; it does not take as long.
func TestLeaps(t *testing.T) {
	for _, ages := range []int{2199, 2200, 2201, 5000, 1 << 20, 1 << 32, 1<<32 + 1, 1<<40 - 1, 1 << 40} {
		m := fresh(t, 64, 1)
		for shard := range 64 {
			hit(t, m, shard, 0, 1<<40)
		}
		goOn(t, m, ages)
		wantRow(t, fmt.Sprintf("%d ages on", ages), m, make([]float64, 64)...)
		wantWave(t, fmt.Sprintf("%d ages on", ages), m.Wave(), [8]complex128{})
		wantClock(t, fmt.Sprintf("%d ages on", ages), m, ages)
		hit(t, m, 5, ages, 3)
		wantReal(t, "a Hit behind it", m.Of(5), 3)
		wantWindows(t, "a Hit behind it", m, 0, 0, 0, 0, 0, 0, 0, 3)
	}
}

// Words: a Hit's clock goes on as a Go's does.
func TestHitGoesOn(t *testing.T) {
	for _, now := range []int{0, 1, 9, 10, 11, 69, 70, 80, 81, 95, 10750, 22000, api.MaxTime} {
		var meters [2]*load.Meter
		for i := range meters {
			meters[i] = laden(t, 10, 8, 0.1, 1<<40)
		}
		hit(t, meters[0], 1, now, 0.3)
		goOn(t, meters[1], now)
		hit(t, meters[1], 1, now, 0.3)
		wantAlike(t, fmt.Sprintf("at %d", now), meters[0], meters[1])
		wantClock(t, "Hit", meters[0], now)
	}
}
