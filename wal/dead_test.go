package wal_test

import (
	"fmt"
	"math"
	"testing"

	"haulage/api"
	"haulage/disk"
	"haulage/wal"
)

// wantDead asks each call of a log that is dead: the power may be there again, nothing is done.
func wantDead(t *testing.T, what string, d *disk.Disk, l *wal.Log, gen, count, synced, used, room int) {
	t.Helper()
	image, pending := d.Image(), d.Pending()
	writes, syncs := d.Counts()
	for range 2 {
		for _, n := range []int{0, 1, 58, 57*room + 1, 100000} {
			wantErr(t, what+": Append of a dead log", l.Append(text(n, 1)), api.ErrDiskPower)
		}
		wantErr(t, what+": Append(nil) of a dead log", l.Append(nil), api.ErrDiskPower)
		wantErr(t, what+": Sync of a dead log", l.Sync(), api.ErrDiskPower)
		for _, g := range []int{math.MinInt, -1, 0, gen - 1, gen, gen + 1, 1 << 40, 1<<40 + 1, math.MaxInt} {
			wantErr(t, what+": Reset of a dead log", l.Reset(g), api.ErrDiskPower)
		}
		wantLog(t, what+": a dead log", l, gen, count, synced, used, room)
	}
	wantBytes(t, what+": Image behind a dead log's calls", d.Image(), image)
	wantNum(t, what+": Pending behind a dead log's calls", d.Pending(), pending)
	wantCounts(t, what+": behind a dead log's calls", d, writes, syncs)
}

// three are a disk and a log with one record that is safe and one that waits.
func three(t *testing.T) (*disk.Disk, *wal.Log) {
	t.Helper()
	d := fresh(t, 9)
	l := made(t, d, 1, 7, 4)
	add(t, l, text(3, 1))
	sync(t, l)
	add(t, l, text(58, 2))
	wantLog(t, "ahead of the power's end", l, 4, 2, 1, 4, 3)
	return d, l
}

// P11.6: a call that meets the disk's error is the log's last, and what the log tells stays what it told.
func TestDead(t *testing.T) {
	calls := map[string]struct {
		writes int
		call   func(l *wal.Log) api.Errno
	}{
		"Append": {3, func(l *wal.Log) api.Errno { return l.Append(text(171, 3)) }},
		"Sync":   {1, func(l *wal.Log) api.Errno { return l.Sync() }},
		"Reset":  {8, func(l *wal.Log) api.Errno { return l.Reset(9) }},
	}
	for name, c := range calls {
		for fuse := range c.writes {
			for _, back := range []string{"stays off", "comes again", "crash"} {
				what := fmt.Sprintf("%s, fuse %d, the power %s", name, fuse, back)
				d, l := three(t)
				d.Fuse(fuse)
				wantErr(t, what, c.call(l), api.ErrDiskPower)
				if back == "comes again" {
					d.Fuse(-1)
				} else if back == "crash" {
					d.Crash([]bool{true, true}, -1, 0)
				}
				wantDead(t, what, d, l, 4, 2, 1, 4, 3)
			}
		}
		d, l := three(t)
		d.Fuse(c.writes)
		wantErr(t, name+" with enough power", c.call(l), api.OK)
		d.Fuse(-1)
		wantErr(t, "Sync of a log that lives", l.Sync(), api.OK)
	}
}

// P11.6, P0.2: what is refused without the disk being asked is told as ever, and the log lives on when the power is there again.
func TestRefusedWithoutPower(t *testing.T) {
	d, l := three(t)
	d.Fuse(0)
	wantErr(t, "too long", l.Append(text(172, 3)), api.ErrWalFull)
	wantErr(t, "the same generation", l.Reset(4), api.ErrArg)
	wantErr(t, "a generation beyond", l.Reset(1<<40+1), api.ErrArg)
	wantLog(t, "no power", l, 4, 2, 1, 4, 3)
	d.Fuse(-1)
	add(t, l, text(171, 3))
	sync(t, l)
	opened(t, "it lives", d, 1, 7, text(3, 1), text(58, 2), text(171, 3))
}

// P11.6: a log that has not met the error is not dead, nor is one of another region.
func TestOneDeadAlone(t *testing.T) {
	d := fresh(t, 12)
	a, b := made(t, d, 0, 6, 1), made(t, d, 6, 6, 1)
	d.Fuse(0)
	wantErr(t, "the one", a.Append(text(3, 1)), api.ErrDiskPower)
	d.Fuse(-1)
	wantDead(t, "the one", d, a, 1, 0, 0, 1, 5)
	add(t, b, text(3, 1))
	sync(t, b)
	wantLog(t, "the other", b, 1, 1, 1, 2, 4)
}

// P11.6: Make and Open that meet the error answer no log; the disk takes another when the power is there again.
func TestMakeAndOpenWithoutPower(t *testing.T) {
	d := loaded(t, standing(4, 1, text(3, 1))...)
	d.Fuse(0)
	wantNotMade(t, d, 0, 4, 2, api.ErrDiskPower)
	wantNoLog(t, "no power", d, 0, 4, api.ErrDiskPower)
	d.Fuse(-1)
	opened(t, "the power is there again", d, 0, 4, text(3, 1))
	for fuse := range 6 {
		d = loaded(t, standing(4, 1, text(3, 1))...)
		d.Fuse(fuse)
		if l, err := wal.Make(d, 0, 4, 2); l != nil || err != api.ErrDiskPower {
			t.Fatalf("Make, fuse %d: a log: %v, error %d", fuse, l != nil, err)
		}
	}
	d = loaded(t, standing(4, 1, text(3, 1))...)
	d.Fuse(6)
	made(t, d, 0, 4, 2)
}
