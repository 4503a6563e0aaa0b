package load_test

import (
	"testing"

	"haulage/api"
	"haulage/load"
)

// P9.6, P0.1: a nil Meter: Row answers nothing, Top -1, Hit and Go ErrNil, whatever they are told; the others zeros.
func TestNilMeter(t *testing.T) {
	var m *load.Meter
	for _, now := range append(wrongTimes(), 0, 1, api.MaxTime) {
		wantErr(t, "Go", m.Go(now), api.ErrNil)
		wantErr(t, "Hit", m.Hit(0, now, 1), api.ErrNil)
	}
	for _, shard := range append(wrongShards(1), 0) {
		wantErr(t, "Hit", m.Hit(shard, 0, 1), api.ErrNil)
		wantReal(t, "Of", m.Of(shard), 0)
	}
	for _, weight := range wrongWeights() {
		wantErr(t, "Hit", m.Hit(0, 0, weight), api.ErrNil)
		wantErr(t, "Hit", m.Hit(-1, -1, weight), api.ErrNil)
	}
	wantNum(t, "loads", len(m.Row()), 0)
	wantReal(t, "Sum", m.Sum(), 0)
	wantReal(t, "Mean", m.Mean(), 0)
	wantReal(t, "Spread", m.Spread(), 0)
	wantNum(t, "Top", m.Top(), -1)
	wantWave(t, "Wave", m.Wave(), [8]complex128{})
}

// P0.1: a Meter that New did not make has no shards; no call panics, and none answers a NaN.
func TestMeterOfNobody(t *testing.T) {
	var m load.Meter
	wantErr(t, "Hit", m.Hit(0, 0, 1), api.ErrArg)
	wantErr(t, "Go", m.Go(5), api.OK)
	wantErr(t, "Go", m.Go(4), api.ErrLoadTime)
	wantErr(t, "Go", m.Go(api.MaxTime), api.OK)
	wantErr(t, "Go", m.Go(-1), api.ErrArg)
	wantReal(t, "Of", m.Of(0), 0)
	wantNum(t, "loads", len(m.Row()), 0)
	wantReal(t, "Sum", m.Sum(), 0)
	wantReal(t, "Mean", m.Mean(), 0)
	wantReal(t, "Spread", m.Spread(), 0)
	wantWave(t, "Wave", m.Wave(), [8]complex128{})
	m.Top()
}

// spoil writes over a list, and over the room behind it.
func spoil(row []float64) {
	row = row[:cap(row)]
	for i := range row {
		row[i] = -1
	}
}

// P9.7, P0.4: who writes over a row, or over the room behind it, changes no meter and no other row.
func TestRowIsNew(t *testing.T) {
	for _, shards := range []int{1, 2, 3, 5, 7, 33, 64} {
		m := fresh(t, shards, 10)
		wanted := make([]float64, shards)
		for i := range wanted {
			wanted[i] = float64(3*i + 1)
			hit(t, m, i, 0, wanted[i])
		}
		one, other := m.Row(), m.Row()
		spoil(one)
		for i, x := range wanted {
			wantReal(t, "the other row", other[i], x)
		}
		wantRow(t, "the meter", m, wanted...)
		spoil(other)
		wantRow(t, "the meter", m, wanted...)
	}
}

// P9.7: a row and a rhythm stay what they were, whatever becomes of the meter.
func TestAnswersStay(t *testing.T) {
	m := laden(t, 10, 8, 3, 5)
	row, wave := m.Row(), m.Wave()
	hit(t, m, 0, 5, 1)
	hit(t, m, 1, 30, 1)
	goOn(t, m, 100)
	for i, x := range []float64{8, 3, 5} {
		wantReal(t, "the earlier row", row[i], x)
	}
	wantWave(t, "the earlier rhythm", wave, toldWave([8]float64{7: 16}))
}
