package shot_test

import (
	"fmt"
	"slices"
	"testing"

	"haulage/api"
)

// P12.8: sectors outside the slots stay as they were, whatever stands there, with slots right at the disk's beginning, at its end, and within it.
func TestOutsideTheSlots(t *testing.T) {
	for _, p := range []place{{0, 2}, {0, 3}, {1, 3}, {2, 3}, {4, 3}, {6, 2}, {3, 2}, {0, 5}} {
		rows := make([][]byte, 10)
		for i := range rows {
			rows[i] = full(byte(i + 1))
		}
		copy(rows[p.from:], empty(2*p.size))
		d := loaded(t, rows...)
		s := opened(t, "ahead of all", d, p.from, p.size, 0, nil)
		for gen := 1; gen < 9; gen++ {
			data := text([]int{0, 1, 64, 64 * (p.size - 1)}[gen%4], gen)
			save(t, s, data)
			what := fmt.Sprintf("from %d, size %d, generation %d", p.from, p.size, gen)
			opened(t, what, d, p.from, p.size, gen, data)
			wantErr(t, what, s.Save(text(64*(p.size-1)+1, 1)), api.ErrShotRoom)
			image := d.Image()
			for i := range rows {
				if i < p.from || i >= p.from+2*p.size {
					wantBytes(t, fmt.Sprintf("%s: sector %d", what, i), image[64*i:64*i+64], rows[i])
				}
			}
		}
	}
}

// P12.8: what stands outside the slots is not read: greater snapshots right ahead of them and right behind them, whole or in part, change no answer.
func TestNotReadOutside(t *testing.T) {
	inner := slices.Concat(standing(3, 5, text(70, 1)), standing(3, 4, text(100, 2)))
	for name, outer := range map[string][2][][]byte{
		"zeros":                  {empty(3), empty(3)},
		"greater ones":           {standing(3, 7, text(70, 3)), standing(3, 8, text(70, 4))},
		"the other way round":    {standing(3, 8, text(70, 3)), standing(3, 7, text(70, 4))},
		"heads right beside":     {{full(1), full(2), headFor(9, nil)}, {headFor(10, nil), full(1), full(2)}},
		"heads beside, odd last": {{full(1), full(2), headFor(10, nil)}, {headFor(9, nil), full(1), full(2)}},
		"bytes":                  {{full(255), full(255), full(255)}, {full(255), full(255), full(255)}},
	} {
		rows := slices.Concat(outer[0], inner, outer[1])
		d := loaded(t, rows...)
		s := opened(t, name, d, 3, 3, 5, text(70, 1))
		save(t, s, text(128, 6))
		wantDisk(t, name, d, slices.Concat(outer[0], inner[:3], standing(3, 6, text(128, 6)), outer[1])...)
		opened(t, name, d, 3, 3, 6, text(128, 6))
		save(t, s, text(128, 7))
		wantDisk(t, name, d, slices.Concat(outer[0], standing(3, 7, text(128, 7)), standing(3, 6, text(128, 6)), outer[1])...)
	}
	none := slices.Concat(standing(3, 7, text(70, 3)), empty(6), standing(3, 8, text(70, 4)))
	opened(t, "none within", loaded(t, none...), 3, 3, 0, nil)
}

// P12.8: a full slot and its neighbour, the last byte of the one beside the head of the other.
func TestFullNeighbours(t *testing.T) {
	d := fresh(t, 8)
	a, b := opened(t, "the one", d, 0, 2, 0, nil), opened(t, "the other", d, 4, 2, 0, nil)
	for gen := 1; gen < 7; gen++ {
		save(t, a, text(64, gen))
		save(t, b, text(64, 100+gen))
		opened(t, "the one", d, 0, 2, gen, text(64, gen))
		opened(t, "the other", d, 4, 2, gen, text(64, 100+gen))
	}
}

// P12.8: two objects on one disk have nothing to do with one another but its power and its Sync.
func TestTwoObjects(t *testing.T) {
	d := fresh(t, 14)
	a, b := opened(t, "the one", d, 8, 3, 0, nil), opened(t, "the other", d, 1, 3, 0, nil)
	save(t, a, text(70, 1))
	wantShots(t, "the other", b, 0, 128)
	opened(t, "the other", d, 1, 3, 0, nil)
	save(t, b, text(9, 2))
	save(t, b, text(10, 3))
	save(t, b, text(11, 4))
	wantShots(t, "the one", a, 1, 128)
	opened(t, "the one", d, 8, 3, 1, text(70, 1))
	wantDisk(t, "both", d, slices.Concat(empty(1), standing(3, 3, text(11, 4)), standing(3, 2, text(10, 3)), empty(1), standing(3, 1, text(70, 1)), empty(3))...)

	d.Fuse(1)
	wantErr(t, "the one is cut off", a.Save(text(128, 5)), api.ErrDiskPower)
	wantErr(t, "the power is both's", b.Save(text(3, 6)), api.ErrDiskPower)
	d.Fuse(-1)
	wantDead(t, "the one", d, a, 1, 128)
	wantDead(t, "the other", d, b, 3, 128)
	wantNum(t, "what waits", d.Pending(), 1)
	c := opened(t, "the other anew", d, 1, 3, 3, text(11, 4))
	save(t, c, text(3, 7))
	wantDisk(t, "the Sync is both's", d, slices.Concat(empty(1), standing(3, 3, text(11, 4)), standing(3, 4, text(3, 7)), empty(1), standing(3, 1, text(70, 1)), empty(1), bodyOf(text(128, 5))[:1], empty(1))...)
	opened(t, "the one", d, 8, 3, 1, text(70, 1))
}

// P12.8: one that an error has put out of use leaves the other in use.
func TestTheOtherGoesOn(t *testing.T) {
	d := fresh(t, 8)
	a, b := opened(t, "the one", d, 0, 2, 0, nil), opened(t, "the other", d, 4, 2, 0, nil)
	d.Fuse(2)
	wantErr(t, "the one is cut off", a.Save(text(3, 1)), api.ErrDiskPower)
	d.Crash(nil, -1, 0)
	save(t, b, text(3, 2))
	wantDead(t, "the one", d, a, 0, 64)
	wantShots(t, "the other", b, 1, 64)
}
