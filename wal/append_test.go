package wal_test

import (
	"fmt"
	"slices"
	"testing"

	"haulage/api"
	"haulage/disk"
)

// P11.4: a record's pieces stand behind the last record's as the chapter forms them, whatever its length.
func TestAppendLengths(t *testing.T) {
	for _, n := range []int{0, 1, 2, 56, 57, 58, 59, 113, 114, 115, 116, 170, 171, 172, 300} {
		what := fmt.Sprintf("a record of %d", n)
		d := fresh(t, 12)
		l := made(t, d, 1, 10, 3)
		add(t, l, text(5, 1), text(n, 2), text(4, 3))
		sync(t, l)
		want := slices.Concat([][]byte{zeros()}, standing(10, 3, text(5, 1), text(n, 2), text(4, 3)), [][]byte{zeros()})
		wantDisk(t, what, d, want...)
		opened(t, what, d, 1, 10, text(5, 1), text(n, 2), text(4, 3))
	}
}

// P11.4: records of bytes that look like something else: zeros, end marks, a head, whole pieces.
func TestAppendOddBytes(t *testing.T) {
	records := [][]byte{zeros(), zeros()[:57], full(165), headOf(9), sectorOf(last, nil), sectorOf(part, text(57, 1)), full(255)[:57], {0}, {}, {3}}
	d := fresh(t, 30)
	l := made(t, d, 0, 30, 1)
	add(t, l, records...)
	sync(t, l)
	wantDisk(t, "odd bytes", d, standing(30, 1, records...)...)
	opened(t, "odd bytes", d, 0, 30, records...)
}

// P11.4: nil and empty records are the same.
func TestAppendNothing(t *testing.T) {
	d := fresh(t, 4)
	l := made(t, d, 0, 4, 1)
	add(t, l, nil, []byte{}, nil)
	wantErr(t, "Append(nil) without room", l.Append(nil), api.ErrWalFull)
	sync(t, l)
	wantDisk(t, "three of no bytes", d, standing(4, 1, nil, nil, nil)...)
	wantLog(t, "three of no bytes", opened(t, "three of no bytes", d, 0, 4, nil, nil, nil), 1, 3, 3, 4, 0)
}

// P11.4, P0.3: as many bytes as there is room for, and one more: then nothing is written.
func TestAppendRoom(t *testing.T) {
	for size := 2; size < 8; size++ {
		for taken := 0; taken < size; taken++ {
			what := fmt.Sprintf("%d of %d sectors", taken, size)
			d := fresh(t, size+1)
			l := made(t, d, 0, size, 1)
			for i := range taken {
				add(t, l, text(i, i))
			}
			writes, syncs := d.Counts()
			most := 57 * (size - 1 - taken)
			for _, n := range []int{most + 1, most + 2, most + 57, most + 58, most + 10000} {
				wantErr(t, what, l.Append(text(n, 9)), api.ErrWalFull)
				wantLog(t, what, l, 1, taken, 0, 1+taken, size-1-taken)
			}
			wantCounts(t, what, d, writes, syncs)
			wantNum(t, what+": Pending", d.Pending(), taken)
			if most > 0 {
				add(t, l, text(most, 9))
				wantLog(t, what+", filled", l, 1, taken+1, 0, size, 0)
			}
			wantErr(t, what+", filled", l.Append(nil), api.ErrWalFull)
		}
	}
}

// P11.4: a record that is refused leaves the log alive; a shorter one fits.
func TestAppendBehindARefusal(t *testing.T) {
	d := fresh(t, 3)
	l := made(t, d, 0, 3, 1)
	wantErr(t, "too long", l.Append(text(115, 1)), api.ErrWalFull)
	add(t, l, text(57, 2))
	wantErr(t, "too long", l.Append(text(58, 3)), api.ErrWalFull)
	add(t, l, text(57, 4))
	sync(t, l)
	opened(t, "what fitted", d, 0, 3, text(57, 2), text(57, 4))
}

// P11.4: a region that is the whole of the greatest disk, with one record that fills it.
func TestAppendTheGreatest(t *testing.T) {
	d := fresh(t, 65536)
	l := made(t, d, 0, 65536, 1)
	long := text(57*65535, 1)
	wantErr(t, "one byte more", l.Append(append(slices.Clone(long), 1)), api.ErrWalFull)
	add(t, l, long)
	wantLog(t, "full", l, 1, 1, 0, 65536, 0)
	sync(t, l)
	wantLog(t, "opened", opened(t, "full", d, 0, 65536, long), 1, 1, 1, 65536, 0)
	wantErr(t, "Reset", l.Reset(2), api.OK)
	opened(t, "reset", d, 0, 65536)
}

// P11.4: the pieces are written one by one, the first one first, and wait for the sync.
func TestAppendStepByStep(t *testing.T) {
	record := text(130, 1)
	all := piecesOf(record)
	for fuse := range 4 {
		what := fmt.Sprintf("fuse %d", fuse)
		d := fresh(t, 6)
		l := made(t, d, 1, 5, 1)
		d.Fuse(fuse)
		want := api.ErrDiskPower
		if fuse == 3 {
			want = api.OK
		}
		wantErr(t, what, l.Append(record), want)
		d.Fuse(-1)
		wantNum(t, what+": Pending", d.Pending(), fuse)
		for i := range 4 {
			p, _ := d.Read(2 + i)
			if i < fuse {
				wantBytes(t, fmt.Sprintf("%s: piece %d", what, i), p, all[i])
			} else {
				wantBytes(t, fmt.Sprintf("%s: piece %d", what, i), p, zeros())
			}
		}
		wantSafe(t, what, d, slices.Concat([][]byte{zeros()}, standing(5, 1))...)
	}
}

// P11.4, P11.5: Append waits; Sync makes safe, and Synced tells how much.
func TestSyncAndSynced(t *testing.T) {
	d := fresh(t, 10)
	l := made(t, d, 0, 10, 1)
	wantLog(t, "Make", l, 1, 0, 0, 1, 9)
	sync(t, l)
	wantLog(t, "Sync of nothing", l, 1, 0, 0, 1, 9)
	wantCounts(t, "Sync of nothing", d, 1, 4)
	add(t, l, text(1, 1))
	wantLog(t, "one", l, 1, 1, 0, 2, 8)
	wantSafe(t, "one waits", d, standing(10, 1)...)
	add(t, l, text(60, 2))
	wantLog(t, "two", l, 1, 2, 0, 4, 6)
	sync(t, l)
	wantLog(t, "Sync", l, 1, 2, 2, 4, 6)
	wantDisk(t, "Sync", d, standing(10, 1, text(1, 1), text(60, 2))...)
	add(t, l, text(2, 3))
	wantErr(t, "too long", l.Append(text(1000, 4)), api.ErrWalFull)
	wantLog(t, "one more", l, 1, 3, 2, 5, 5)
	sync(t, l)
	sync(t, l)
	wantLog(t, "Sync twice", l, 1, 3, 3, 5, 5)
	wantCounts(t, "Sync twice", d, 5, 7)
	add(t, l, text(3, 5))
	wantErr(t, "Reset", l.Reset(2), api.OK)
	wantLog(t, "Reset", l, 2, 0, 0, 1, 9)
}

// P11.4: Sync is the disk's: what others wrote is made safe with it.
func TestSyncIsTheDisks(t *testing.T) {
	d := fresh(t, 8)
	a, b := made(t, d, 0, 3, 1), made(t, d, 4, 3, 2)
	add(t, a, text(3, 1))
	add(t, b, text(4, 2))
	d.Write(3, full(7))
	sync(t, a)
	wantNum(t, "Synced of the one", a.Synced(), 1)
	wantNum(t, "Synced of the other", b.Synced(), 0)
	wantDisk(t, "Sync", d, slices.Concat(standing(3, 1, text(3, 1)), [][]byte{full(7)}, standing(3, 2, text(4, 2)), [][]byte{zeros()})...)
}

// P11.7: nothing outside the region is ever written, by whatever call, with what stands right beside it.
func TestOutsideTheRegion(t *testing.T) {
	beside := func() (*disk.Disk, [][]byte) {
		rows := [][]byte{full(1), headOf(3), zeros(), zeros(), zeros(), zeros(), sectorOf(part, text(57, 1)), full(165)}
		return loaded(t, rows...), rows
	}
	d, rows := beside()
	l := made(t, d, 2, 4, 1)
	for gen := 2; gen < 6; gen++ {
		add(t, l, text(57, gen))
		wantErr(t, "full", l.Append(text(115, gen)), api.ErrWalFull)
		add(t, l, text(58, gen))
		sync(t, l)
		m := opened(t, "full", d, 2, 4, text(57, gen), text(58, gen))
		wantSafe(t, "full", d, slices.Concat(rows[:2], standing(4, uint64(gen-1), text(57, gen), text(58, gen)), rows[6:])...)
		wantErr(t, "Reset", m.Reset(gen), api.OK)
		wantSafe(t, "Reset", d, slices.Concat(rows[:2], standing(4, uint64(gen)), rows[6:])...)
		l = m
	}
	d.Write(4, full(3))
	opened(t, "dirt within", d, 2, 4)
	wantDisk(t, "dirt within", d, slices.Concat(rows[:2], standing(4, 5), rows[6:])...)
}
