package load_test

import (
	"math"
	"testing"

	"haulage/api"
	"haulage/load"
)

// Every row of the chapter's "Examples", in one go over one meter.
func TestExamples(t *testing.T) {
	m := fresh(t, 3, 10)

	hit(t, m, 0, 0, 8)
	hit(t, m, 2, 5, 4)
	hit(t, m, 0, 9, 1)
	wantRow(t, "at 9", m, 9, 0, 4)
	wantReal(t, "at 9: Sum", m.Sum(), 13)
	wantReal(t, "at 9: Mean", m.Mean(), 4.333333333333333)
	wantNum(t, "at 9: Top", m.Top(), 0)

	goOn(t, m, 10)
	hit(t, m, 1, 19, 2)
	wantRow(t, "at 19", m, 4.5, 2, 2)
	wantReal(t, "at 19: Sum", m.Sum(), 8.5)
	wantNum(t, "at 19: Top", m.Top(), 0)

	goOn(t, m, 39)
	wantReal(t, "at 39: Of(0)", m.Of(0), 1.125)
	wantReal(t, "at 39: Of(1)", m.Of(1), 0.5)
	wantReal(t, "at 39: Of(9)", m.Of(9), 0)

	wantErr(t, "Hit(0, 38, 1)", m.Hit(0, 38, 1), api.ErrLoadTime)
	wantErr(t, "Hit(3, 50, 1)", m.Hit(3, 50, 1), api.ErrArg)
	wantErr(t, "Hit(0, 50, -1)", m.Hit(0, 50, -1), api.ErrArg)
	wantErr(t, "Hit(0, 50, NaN)", m.Hit(0, 50, math.NaN()), api.ErrArg)
	wantErr(t, "Go(-1)", m.Go(-1), api.ErrArg)

	hit(t, m, 0, 40, 0)
	hit(t, m, 1, 40, 0)
	wave := m.Wave()
	wantReal(t, "at 40: entry 0", real(wave[0]), 15)
	wantReal(t, "at 40: entry 0, i", imag(wave[0]), 0)
	wantReal(t, "at 40: entry 4", real(wave[4]), -11)
	wantReal(t, "at 40: entry 4, i", imag(wave[4]), 0)
	wantWindows(t, "at 40", m, 0, 0, 0, 13, 2, 0, 0, 0)

	goOn(t, m, api.MaxTime)
	wantRow(t, "at the end", m, 0, 0, 0)
	wantNum(t, "at the end: Top", m.Top(), 0)
	wantWave(t, "at the end", m.Wave(), [8]complex128{})

	for _, c := range [][2]int{{0, 1}, {65, 1}, {1, 0}, {1, 1048577}} {
		m, err := load.New(c[0], c[1])
		wantErr(t, "New", err, api.ErrArg)
		if m != nil {
			t.Fatalf("New(%d, %d): a meter beside the error", c[0], c[1])
		}
	}
}
