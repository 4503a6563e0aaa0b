package load_test

import (
	"fmt"
	"math"
	"math/cmplx"
	"math/rand"
	"testing"

	"haulage/load"
)

// windowed is a meter with these windows.
func windowed(t *testing.T, windows [8]float64) *load.Meter {
	t.Helper()
	m := fresh(t, 1, 10)
	for age, weight := range windows {
		hit(t, m, 0, 10*age, weight)
	}
	return m
}

// P9.5: there are eight windows, and as many entries.
func TestWindowsAreEight(t *testing.T) {
	wantNum(t, "Windows", load.Windows, 8)
	wave := fresh(t, 1, 1).Wave()
	wantNum(t, "entries", len(wave), 8)
}

// P9.5: of one window of 1 the entries are turns: entry k is the turn k * t modulo 8.
func TestTurns(t *testing.T) {
	turns := [8]complex128{1, complex(r, r), 1i, complex(-r, r), -1, complex(-r, -r), -1i, complex(r, -r)}
	for at := range 8 {
		var windows [8]float64
		windows[at] = 1
		var wanted [8]complex128
		for k := range wanted {
			wanted[k] = turns[k*at%8]
		}
		wantWave(t, fmt.Sprintf("1 in window %d", at), windowed(t, windows).Wave(), wanted)
	}
	wantReal(t, "r", r, math.Sqrt(0.5))
}

// P9.5: entries that can be reckoned by hand.
func TestWaveByHand(t *testing.T) {
	wantWave(t, "all alike", windowed(t, [8]float64{1, 1, 1, 1, 1, 1, 1, 1}).Wave(), toldWave([8]float64{1, 1, 1, 1, 1, 1, 1, 1}))
	wave := windowed(t, [8]float64{1, 1, 1, 1, 1, 1, 1, 1}).Wave()
	for _, k := range []int{2, 4, 6} {
		wantReal(t, "all alike: an even entry", real(wave[k]), 0)
		wantReal(t, "all alike: an even entry, i", imag(wave[k]), 0)
	}
	wave = windowed(t, [8]float64{8, 0, 8, 0, 8, 0, 8, 0}).Wave()
	wantReal(t, "every second: entry 0", real(wave[0]), 32)
	wantReal(t, "every second: entry 4", real(wave[4]), 32)
	wantReal(t, "every second: entry 2", real(wave[2]), 0)
	wave = windowed(t, [8]float64{1, 2, 3, 4, 5, 6, 7, 8}).Wave()
	wantReal(t, "rising: entry 0", real(wave[0]), 36)
	wantReal(t, "rising: entry 4", real(wave[4]), -4)
	wantReal(t, "rising: entry 2", real(wave[2]), -4)
	wantReal(t, "rising: entry 2, i", imag(wave[2]), -4)
	wantReal(t, "rising: entry 6", real(wave[6]), -4)
	wantReal(t, "rising: entry 6, i", imag(wave[6]), 4)
}

// P9.5: windows of all kinds, to the bit: no product is held exactly while it is added, and the sums stand in the order of the windows.
func TestWaveToTheBit(t *testing.T) {
	dice := rand.New(rand.NewSource(5))
	fused, turned := 0, 0
	for range 300 {
		var windows [8]float64
		for i := range windows {
			windows[i] = someWeight(dice) + 0
		}
		wanted := toldWave(windows)
		wantWave(t, fmt.Sprintf("windows %v", windows), windowed(t, windows).Wave(), wanted)
		if waveBy(windows, false, math.FMA) != wanted {
			fused++
		}
		if waveBy(windows, true, apart) != wanted {
			turned++
		}
	}
	if fused < 10 || turned < 10 {
		t.Fatalf("only %d rows tell rounded products from exact ones, %d an order from the other", fused, turned)
	}
}

// apart rounds the product and the sum each by itself.
func apart(a, b, c float64) float64 { return float64(a*b) + c }

// waveBy is a rhythm that is reckoned another way: backwards, or with a step of its own.
func waveBy(windows [8]float64, backwards bool, step func(a, b, c float64) float64) [8]complex128 {
	var wave [8]complex128
	for k := range wave {
		x, y := 0.0, 0.0
		for i := range 8 {
			at := i
			if backwards {
				at = 7 - i
			}
			x = step(windows[at], turnReal(k*at%8), x)
			y = step(windows[at], turnImag(k*at%8), y)
		}
		wave[k] = complex(x, y)
	}
	return wave
}

// P9.11: entry 0 is the sum of all windows, from window 0 on, and has no imaginary part.
func TestEntryZero(t *testing.T) {
	const u = 0x1p-13
	rows := [][8]float64{
		{}, {1, 2, 4, 8, 16, 32, 64, 128},
		{1 << 40, u, u, u, u, u, u, u},
		{u, u, u, u, u, u, u, 1 << 40},
		{0.1, 0.2, 0.3, 0.4, 0.5, 0.6, 0.7, 0.8},
	}
	for _, windows := range rows {
		entry := windowed(t, windows).Wave()[0]
		wantReal(t, fmt.Sprintf("entry 0 of %v", windows), real(entry), toldSum(windows[:]))
		wantReal(t, fmt.Sprintf("entry 0 of %v, i", windows), imag(entry), 0)
	}
	wantReal(t, "great first", real(windowed(t, rows[2]).Wave()[0]), 1<<40)
	wantReal(t, "small first", real(windowed(t, rows[3]).Wave()[0]), 0x1p40+8*u)
}

// P9.11: the mirror: entry 8 - k has the same real part as entry k, and the opposite imaginary part.
func TestMirror(t *testing.T) {
	dice := rand.New(rand.NewSource(11))
	for range 300 {
		var windows [8]float64
		for i := range windows {
			windows[i] = someWeight(dice)
		}
		wave := windowed(t, windows).Wave()
		for k := 1; k <= 7; k++ {
			if wave[8-k] != cmplx.Conj(wave[k]) {
				t.Fatalf("windows %v: entry %d is %v, entry %d is %v", windows, k, wave[k], 8-k, wave[8-k])
			}
		}
		if imag(wave[0]) != 0 || imag(wave[4]) != 0 {
			t.Fatalf("windows %v: entry 0 is %v, entry 4 is %v", windows, wave[0], wave[4])
		}
	}
}

// P9.5: the rhythm is of the windows alone: whose shards they were, and what has become of the loads, is all one.
func TestWaveOfAllShards(t *testing.T) {
	a, b := fresh(t, 3, 10), fresh(t, 1, 7)
	for i, weight := range []float64{3, 1, 4, 1, 5, 9, 2, 6} {
		hit(t, a, i%3, 10*i+i, weight)
		hit(t, b, 0, 7*i, weight)
	}
	wantWave(t, "three shards and one", a.Wave(), b.Wave())
}
