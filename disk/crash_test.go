package disk_test

import (
	"fmt"
	"math"
	"testing"
)

// P8.5: those are carried out for which keep has an element, and that is true; the rest are lost.
func TestKeep(t *testing.T) {
	for _, row := range []struct {
		keep []bool
		want [3]byte
	}{
		{nil, [3]byte{1, 2, 3}},
		{[]bool{}, [3]byte{1, 2, 3}},
		{[]bool{false, false, false}, [3]byte{1, 2, 3}},
		{[]bool{true}, [3]byte{11, 2, 3}},
		{[]bool{false, true}, [3]byte{1, 12, 3}},
		{[]bool{true, true}, [3]byte{11, 12, 3}},
		{[]bool{false, false, true}, [3]byte{1, 2, 13}},
		{[]bool{true, false, true}, [3]byte{11, 2, 13}},
		{[]bool{true, true, true}, [3]byte{11, 12, 13}},
		{[]bool{false, true, false, true, true}, [3]byte{1, 12, 3}},
		{[]bool{true, true, true, true, true, true}, [3]byte{11, 12, 13}},
		{[]bool{false, false, false, true}, [3]byte{1, 2, 3}},
	} {
		d := loaded(t, full(1), full(2), full(3))
		for i := range 3 {
			write(t, d, i, full(byte(11+i)))
		}
		d.Crash(row.keep, -1, 0)
		wantSectors(t, fmt.Sprint(row.keep), d, full(row.want[0]), full(row.want[1]), full(row.want[2]))
		wantCounts(t, fmt.Sprint(row.keep), d, 3, 0)
	}
}

// P8.5: keep goes by the order of the writes, not by that of the sectors; what is kept is carried out in that order.
func TestKeepInOrder(t *testing.T) {
	for _, row := range []struct {
		keep []bool
		want [2]byte
	}{
		{[]bool{true, true, true, true}, [2]byte{14, 13}},
		{[]bool{true, true, true}, [2]byte{12, 13}},
		{[]bool{true, true}, [2]byte{12, 11}},
		{[]bool{true}, [2]byte{1, 11}},
		{[]bool{false, true, false, true}, [2]byte{14, 2}},
		{[]bool{true, true, false, false}, [2]byte{12, 11}},
	} {
		d := loaded(t, full(1), full(2))
		for i, sector := range []int{1, 0, 1, 0} {
			write(t, d, sector, full(byte(11+i)))
		}
		d.Crash(row.keep, -1, 0)
		wantSectors(t, fmt.Sprint(row.keep), d, full(row.want[0]), full(row.want[1]))
	}
}

// P8.5: of the one at torn the first cut bytes alone are carried out, whatever keep says of it; cut is brought into 0 to 64.
func TestTorn(t *testing.T) {
	for _, cut := range []int{math.MinInt, -64, -1, 0, 1, 2, 31, 32, 62, 63, 64, 65, 128, math.MaxInt} {
		bytes := min(max(cut, 0), 64)
		for _, keep := range [][]bool{nil, {false, false}, {false, true}, {false, true, true}} {
			d := loaded(t, full(1), full(2))
			write(t, d, 0, full(11))
			write(t, d, 1, full(12))
			d.Crash(keep, 1, cut)
			wantSectors(t, fmt.Sprintf("Crash(%v, 1, %d)", keep, cut), d, full(1), torn(12, bytes, 2))
		}
	}
}

// P8.5: a torn one that is no pending write's tears nothing.
func TestTornBesideTheWrites(t *testing.T) {
	for _, at := range []int{math.MinInt, -65536, -2, -1, 2, 3, 64, math.MaxInt} {
		for _, cut := range []int{-1, 0, 7, 64, 65} {
			d := loaded(t, full(1), full(2))
			write(t, d, 0, full(11))
			write(t, d, 1, full(12))
			d.Crash([]bool{true, false, true}, at, cut)
			wantSectors(t, fmt.Sprintf("Crash(.., %d, %d)", at, cut), d, full(11), full(2))
		}
	}
}

// P8.5: torn counts the pending writes alone, from 0 on, not those that a Sync has carried out, nor sectors.
func TestTornCountsPendingWrites(t *testing.T) {
	d := loaded(t, full(1), full(2), full(3))
	write(t, d, 0, full(11))
	sync(t, d)
	write(t, d, 2, full(13))
	write(t, d, 1, full(12))
	d.Crash(nil, 0, 5)
	wantSectors(t, "Crash", d, full(11), full(2), torn(13, 5, 3))
}

// P8.5: the bytes behind the cut stay as they are by then: what an earlier write laid there, if it was kept, else what was safe.
func TestTornOverAnother(t *testing.T) {
	for _, cut := range []int{0, 1, 3, 63, 64} {
		for _, row := range []struct {
			keep []bool
			torn int
			want []byte
		}{
			{[]bool{true, true}, 1, torn(8, cut, 7)},
			{[]bool{true}, 1, torn(8, cut, 7)},
			{[]bool{false, true}, 1, torn(8, cut, 5)},
			{nil, 1, torn(8, cut, 5)},
			{nil, 0, torn(7, cut, 5)},
			{[]bool{true, false}, 0, torn(7, cut, 5)},
			{[]bool{false, true}, 0, full(8)},
		} {
			d := loaded(t, full(6), full(5))
			write(t, d, 1, full(7))
			write(t, d, 1, full(8))
			d.Crash(row.keep, row.torn, cut)
			wantSectors(t, fmt.Sprintf("Crash(%v, %d, %d)", row.keep, row.torn, cut), d, full(6), row.want)
		}
	}
}

// P8.5: each byte of a torn write stays in its place.
func TestTornInItsPlace(t *testing.T) {
	for cut := range 65 {
		d := loaded(t, marked(1), marked(2), marked(3))
		write(t, d, 1, marked(4))
		d.Crash(nil, 0, cut)
		wanted := append(marked(4)[:cut:cut], marked(2)[cut:]...)
		wantSectors(t, fmt.Sprintf("cut %d", cut), d, marked(1), wanted, marked(3))
	}
}

// P8.5: without pending writes nothing is carried out, whatever is asked for.
func TestCrashOfNothing(t *testing.T) {
	d := loaded(t, marked(1), marked(2))
	for _, keep := range [][]bool{nil, {true}, {true, true, true}} {
		for _, at := range []int{-1, 0, 1} {
			d.Crash(keep, at, 64)
			wantSectors(t, "Crash", d, marked(1), marked(2))
		}
	}
	wantCounts(t, "Crash", d, 0, 0)
}

// P8.5: what was lost does not come again, by a Sync or by a further Crash.
func TestWhatIsLostIsLost(t *testing.T) {
	d := loaded(t, full(1), full(2))
	write(t, d, 0, full(11))
	write(t, d, 1, full(12))
	d.Crash([]bool{false, true}, -1, 0)
	wantNum(t, "Pending", d.Pending(), 0)
	d.Crash([]bool{true, true}, 0, 64)
	sync(t, d)
	wantSectors(t, "Sync", d, full(1), full(12))
	write(t, d, 1, full(22))
	wantNum(t, "Pending", d.Pending(), 1)
	d.Crash([]bool{true}, -1, 0)
	wantSectors(t, "the next one", d, full(1), full(22))
}

// P8.5: while the power is off, what waits goes the same way, and so does what was refused: it was never there.
func TestCrashWithoutPower(t *testing.T) {
	d := loaded(t, full(1), full(2))
	d.Fuse(1)
	write(t, d, 0, full(11))
	d.Write(1, full(12))
	d.Sync()
	d.Crash([]bool{true, true}, -1, 0)
	wantSectors(t, "Crash", d, full(11), full(2))
	wantCounts(t, "Crash", d, 1, 0)
}

// P8.7: behind a Sync no Crash changes anything.
func TestSyncedIsSafe(t *testing.T) {
	for _, at := range []int{-1, 0, 1, 2} {
		for _, cut := range []int{0, 5, 64} {
			for _, keep := range [][]bool{nil, {true, true}, {false, true}} {
				d := loaded(t, full(1), full(2))
				write(t, d, 1, full(3))
				write(t, d, 1, marked(4))
				write(t, d, 0, marked(5))
				sync(t, d)
				wantSectors(t, "Sync", d, marked(5), marked(4))
				d.Crash(keep, at, cut)
				wantSectors(t, "Crash", d, marked(5), marked(4))
				wantCounts(t, "Crash", d, 3, 1)
			}
		}
	}
}
