package wal_test

import (
	"fmt"
	"math"
	"testing"

	"haulage/api"
	"haulage/disk"
	"haulage/wal"
)

// place is where a region is said to be.
type place struct{ from, n int }

// wrongPlaces are no regions of a disk of so many sectors.
func wrongPlaces(sectors int) []place {
	return []place{
		{-1, 2}, {-1, 3}, {-2, sectors}, {math.MinInt, 2}, {math.MinInt, math.MaxInt}, {-64, sectors + 64},
		{0, 1}, {0, 0}, {0, -1}, {0, math.MinInt}, {2, 1}, {2, 0}, {2, -2}, {sectors - 1, 1}, {sectors, 0},
		{0, sectors + 1}, {1, sectors}, {sectors - 1, 2}, {sectors - 2, 3}, {sectors, 2}, {sectors + 1, 2}, {65536, 2}, {0, 65537},
		{0, math.MaxInt}, {1, math.MaxInt}, {2, math.MaxInt}, {math.MaxInt, 2}, {math.MaxInt, 1}, {math.MaxInt, math.MaxInt}, {math.MaxInt - 1, 3}, {2, math.MaxInt - 1},
	}
}

// wrongGens are numbers that no generation is.
func wrongGens() []int {
	return []int{0, -1, -1 << 40, math.MinInt, 1<<40 + 1, 1<<40 + 2, 1 << 41, 1 << 62, math.MaxInt}
}

// wantNotMade asks for a Make that is refused, and changes nothing on the disk.
func wantNotMade(t *testing.T, d *disk.Disk, from, n, gen int, wanted api.Errno) {
	t.Helper()
	what := fmt.Sprintf("Make(%d, %d, %d)", from, n, gen)
	image, pending := d.Image(), d.Pending()
	writes, syncs := d.Counts()
	l, err := wal.Make(d, from, n, gen)
	wantErr(t, what, err, wanted)
	if l != nil {
		t.Fatalf("%s: a log beside an error", what)
	}
	wantBytes(t, what+": Image", d.Image(), image)
	wantNum(t, what+": Pending", d.Pending(), pending)
	wantCounts(t, what, d, writes, syncs)
}

// P11.2: no disk, no region, no generation.
func TestMakeRefuses(t *testing.T) {
	for _, p := range append(wrongPlaces(6), place{0, 6}) {
		for _, gen := range append(wrongGens(), 1, 1<<40) {
			wantNotMade(t, nil, p.from, p.n, gen, api.ErrNil)
		}
	}
	d := loaded(t, full(1), full(2), full(3), full(4), full(5), full(6))
	d.Write(2, full(9))
	for _, p := range wrongPlaces(6) {
		for _, gen := range append(wrongGens(), 1, 1<<40) {
			wantNotMade(t, d, p.from, p.n, gen, api.ErrArg)
		}
	}
	for _, p := range []place{{0, 6}, {0, 2}, {4, 2}, {1, 3}} {
		for _, gen := range wrongGens() {
			wantNotMade(t, d, p.from, p.n, gen, api.ErrArg)
		}
	}
}

// P11.2, P0.2: what may not be given is told ahead of a power that is off; and a Disk that New did not make has no region.
func TestMakeRefusesAheadOfThePower(t *testing.T) {
	d := fresh(t, 6)
	d.Fuse(0)
	wantNotMade(t, d, 0, 7, 1, api.ErrArg)
	wantNotMade(t, d, 0, 6, 0, api.ErrArg)
	wantNotMade(t, d, 0, 6, 1, api.ErrDiskPower)
	wantNotMade(t, &disk.Disk{}, 0, 2, 1, api.ErrArg)
}

// P11.2: regions at the disk's beginning, within it, at its end; the least one and the whole disk; the least generation and the greatest.
func TestMakePlaces(t *testing.T) {
	for _, p := range []place{{0, 2}, {0, 3}, {0, 6}, {1, 2}, {2, 2}, {3, 3}, {4, 2}, {1, 5}} {
		for _, gen := range []int{1, 2, 255, 256, 1<<40 - 1, 1 << 40} {
			what := fmt.Sprintf("Make(%d, %d, %d)", p.from, p.n, gen)
			d := fresh(t, 6)
			l := made(t, d, p.from, p.n, gen)
			wantLog(t, what, l, gen, 0, 0, 1, p.n-1)
			want := standing(6, uint64(gen))[1:]
			want = append(want[:p.from:p.from], append([][]byte{headOf(uint64(gen))}, want[p.from:]...)...)
			wantDisk(t, what, d, want...)
			wantLog(t, what+", opened", opened(t, what, d, p.from, p.n), gen, 0, 0, 1, p.n-1)
		}
	}
}

// P11.2, P11.7: Make wipes what stood in the region, and nothing beside it.
func TestMakeWipes(t *testing.T) {
	d := loaded(t, full(1), full(2), zeros(), full(165), full(5), full(6))
	made(t, d, 1, 4, 7)
	wantDisk(t, "Make", d, full(1), headOf(7), zeros(), zeros(), zeros(), full(6))
	wantCounts(t, "three that were not zeros, and the head", d, 4, 3)
}

// P11.2: sectors with one byte that is not zero are not all zeros, wherever it stands.
func TestMakeWipesOneByte(t *testing.T) {
	for at := range 64 {
		one := zeros()
		one[at] = 1
		d := loaded(t, one, zeros(), one)
		made(t, d, 0, 3, 1)
		wantDisk(t, fmt.Sprintf("byte %d", at), d, standing(3, 1)...)
		wantCounts(t, fmt.Sprintf("byte %d", at), d, 3, 3)
	}
}

// P11.2: what is all zeros is not written; the syncs come all the same.
func TestMakeOnZeros(t *testing.T) {
	d := fresh(t, 9)
	made(t, d, 1, 7, 3)
	wantCounts(t, "the head alone", d, 1, 3)
}

// step is what a power's end leaves of a call: the safe sectors and how many writes wait.
type step struct {
	safe    [][]byte
	pending int
}

// wantSteps has a call on a disk whose power goes ahead of each of its writes and syncs.
func wantSteps(t *testing.T, prepare func() (*disk.Disk, func() api.Errno), steps []step) {
	t.Helper()
	for fuse, s := range steps {
		what := fmt.Sprintf("fuse %d", fuse)
		d, call := prepare()
		d.Fuse(fuse)
		want := api.ErrDiskPower
		if fuse == len(steps)-1 {
			want = api.OK
		}
		wantErr(t, what, call(), want)
		wantSafe(t, what, d, s.safe...)
		wantNum(t, what+": Pending", d.Pending(), s.pending)
	}
}

// P11.2: zeros over the first sector, a sync, zeros over the others, a sync, the head, a sync: in this order.
func TestMakeStepByStep(t *testing.T) {
	prepare := func() (*disk.Disk, func() api.Errno) {
		d := loaded(t, full(9), headOf(1), full(2), zeros(), full(4), full(9))
		return d, func() api.Errno {
			_, err := wal.Make(d, 1, 4, 5)
			return err
		}
	}
	old := [][]byte{full(9), headOf(1), full(2), zeros(), full(4), full(9)}
	headless := [][]byte{full(9), zeros(), full(2), zeros(), full(4), full(9)}
	empty := [][]byte{full(9), zeros(), zeros(), zeros(), zeros(), full(9)}
	done := [][]byte{full(9), headOf(5), zeros(), zeros(), zeros(), full(9)}
	wantSteps(t, prepare, []step{{old, 0}, {old, 1}, {headless, 0}, {headless, 1}, {headless, 2}, {empty, 0}, {empty, 1}, {done, 0}})
}

// P11.2: a region of zeros has its two syncs ahead of the head.
func TestMakeOnZerosStepByStep(t *testing.T) {
	prepare := func() (*disk.Disk, func() api.Errno) {
		d := fresh(t, 3)
		return d, func() api.Errno {
			_, err := wal.Make(d, 0, 3, 5)
			return err
		}
	}
	empty := standing(3, 5)
	empty[0] = zeros()
	wantSteps(t, prepare, []step{{empty, 0}, {empty, 0}, {empty, 0}, {empty, 1}, {standing(3, 5), 0}})
}

// P11.2: Make over what only waits: it is asked what is told, not what is safe.
func TestMakeOverWhatWaits(t *testing.T) {
	d := loaded(t, zeros(), full(2), zeros())
	d.Write(0, full(1))
	d.Write(1, zeros())
	d.Write(2, full(3))
	made(t, d, 0, 3, 4)
	wantDisk(t, "Make", d, standing(3, 4)...)
	wantCounts(t, "three of the test's, two wiped, the head", d, 6, 3)
}

// P11.2: Reset takes a greater generation alone, up to MaxTime.
func TestResetGenerations(t *testing.T) {
	d := fresh(t, 4)
	l := made(t, d, 0, 4, 5)
	add(t, l, text(3, 1))
	sync(t, l)
	add(t, l, text(60, 2))
	writes, syncs := d.Counts()
	for _, gen := range append(wrongGens(), 5, 4, 1) {
		wantErr(t, fmt.Sprintf("Reset(%d)", gen), l.Reset(gen), api.ErrArg)
		wantLog(t, fmt.Sprintf("Reset(%d)", gen), l, 5, 2, 1, 4, 0)
	}
	wantCounts(t, "what was refused", d, writes, syncs)
	wantSafe(t, "what was refused", d, standing(4, 5, text(3, 1))...)

	for _, gen := range []int{6, 7, 1000, 1<<40 - 1, 1 << 40} {
		wantErr(t, fmt.Sprintf("Reset(%d)", gen), l.Reset(gen), api.OK)
		wantLog(t, fmt.Sprintf("Reset(%d)", gen), l, gen, 0, 0, 1, 3)
		wantDisk(t, fmt.Sprintf("Reset(%d)", gen), d, standing(4, uint64(gen))...)
		wantErr(t, "Reset to the same", l.Reset(gen), api.ErrArg)
		add(t, l, text(100, 3))
		sync(t, l)
		wantLog(t, "a record", l, gen, 1, 1, 3, 1)
	}
	wantErr(t, "Reset beyond the last", l.Reset(1<<40+1), api.ErrArg)
	opened(t, "the last generation", d, 0, 4, text(100, 3))
}

// P11.2, P11.7: Reset wipes its own region alone, and only what is not zeros.
func TestResetWipes(t *testing.T) {
	d := loaded(t, full(8), zeros(), zeros(), zeros(), zeros(), full(9))
	l := made(t, d, 1, 4, 1)
	add(t, l, text(58, 1))
	wantErr(t, "Reset(2)", l.Reset(2), api.OK)
	wantDisk(t, "Reset", d, full(8), headOf(2), zeros(), zeros(), zeros(), full(9))
	wantCounts(t, "the head; two pieces; three wiped, the head", d, 7, 6)
	add(t, l, text(5, 2))
	sync(t, l)
	wantDisk(t, "Append behind Reset", d, full(8), headOf(2), sectorOf(last, text(5, 2)), zeros(), zeros(), full(9))
}

// P11.2: Reset goes step by step as Make does; what waits is made safe by the first of its syncs.
func TestResetStepByStep(t *testing.T) {
	prepare := func() (*disk.Disk, func() api.Errno) {
		d := fresh(t, 4)
		l := made(t, d, 0, 4, 1)
		add(t, l, text(9, 1))
		sync(t, l)
		add(t, l, text(9, 2))
		return d, func() api.Errno { return l.Reset(2) }
	}
	old := standing(4, 1, text(9, 1))
	headless := standing(4, 1, text(9, 1), text(9, 2))
	headless[0] = zeros()
	empty := standing(4, 1)
	empty[0] = zeros()
	wantSteps(t, prepare, []step{{old, 1}, {old, 2}, {headless, 0}, {headless, 1}, {headless, 2}, {empty, 0}, {empty, 1}, {standing(4, 2), 0}})
}
