package disk_test

import (
	"fmt"
	"math"
	"testing"

	"haulage/api"
	"haulage/disk"
)

// wantOff asks for a disk whose power is off: what asks for power is refused.
func wantOff(t *testing.T, what string, d *disk.Disk) {
	t.Helper()
	wantErr(t, what+": Write", d.Write(0, full(9)), api.ErrDiskPower)
	wantErr(t, what+": Sync", d.Sync(), api.ErrDiskPower)
	wantNoRead(t, what, d, 0, api.ErrDiskPower)
}

// burn has n Writes and Syncs that go well.
func burn(t *testing.T, d *disk.Disk, n int) {
	t.Helper()
	for i := range n {
		if i%3 == 2 {
			sync(t, d)
		} else {
			write(t, d, 0, full(byte(i)))
		}
	}
}

// P8.4: just n more Writes and Syncs are carried out, then the power is off.
func TestFuse(t *testing.T) {
	for _, n := range []int{0, 1, 2, 3, 4, 5, 10, 100} {
		d := fresh(t, 2)
		burn(t, d, 4)
		d.Fuse(n)
		burn(t, d, n)
		for range 3 {
			wantOff(t, fmt.Sprintf("Fuse(%d)", n), d)
		}
	}
}

// P8.4: Writes alone and Syncs alone take one off each.
func TestFuseOfOneKind(t *testing.T) {
	d := fresh(t, 1)
	d.Fuse(3)
	for range 3 {
		write(t, d, 0, full(1))
	}
	wantOff(t, "three writes", d)
	d.Fuse(3)
	for range 3 {
		sync(t, d)
	}
	wantOff(t, "three syncs", d)
}

// P8.2, P8.4: the call that takes the last one off is carried out as a whole.
func TestTheLastCallIsDone(t *testing.T) {
	d := loaded(t, marked(1), marked(2))
	d.Fuse(1)
	write(t, d, 0, marked(3))
	wantNum(t, "Pending", d.Pending(), 1)
	d.Fuse(1)
	sync(t, d)
	wantNum(t, "Pending", d.Pending(), 0)
	wantImage(t, "Sync", d, marked(3), marked(2))
	wantOff(t, "behind both", d)
	wantCounts(t, "behind both", d, 1, 1)
}

// P8.4: below 0 there is none, be it that it had not burnt yet, or that the power was off.
func TestFuseIsTakenAway(t *testing.T) {
	for _, n := range []int{-1, -2, -64, math.MinInt + 1, math.MinInt} {
		for _, was := range []int{0, 1, 2, 5} {
			d := fresh(t, 1)
			d.Fuse(was)
			d.Fuse(n)
			burn(t, d, 20)
			wantRead(t, "without a fuse", d, 0, full(19))
		}
		d := fresh(t, 1)
		d.Fuse(n)
		burn(t, d, 20)
	}
}

// P8.4: a further Fuse counts from anew, be it shorter or longer, be the power off or not.
func TestFuseIsSetAnew(t *testing.T) {
	for _, first := range []int{0, 1, 3, 7, math.MaxInt} {
		for _, next := range []int{0, 1, 2, 6, 9} {
			d := fresh(t, 1)
			d.Fuse(first)
			burn(t, d, min(first, 2))
			d.Fuse(next)
			burn(t, d, next)
			wantOff(t, fmt.Sprintf("Fuse(%d), Fuse(%d)", first, next), d)
		}
	}
}

// P8.4: the greatest fuse is far from its end.
func TestTheGreatestFuse(t *testing.T) {
	d := fresh(t, 1)
	d.Fuse(math.MaxInt)
	burn(t, d, 100)
	wantRead(t, "with power", d, 0, full(byte(99)))
}

// P8.3, P8.6: what asks for no power is told without it, and changes nothing then.
func TestWithoutPower(t *testing.T) {
	d := loaded(t, marked(1), marked(2))
	write(t, d, 0, marked(3))
	sync(t, d)
	write(t, d, 1, marked(4))
	d.Fuse(0)
	for range 3 {
		wantNum(t, "Sectors", d.Sectors(), 2)
		wantNum(t, "Pending", d.Pending(), 1)
		wantCounts(t, "no power", d, 2, 1)
		wantImage(t, "no power", d, marked(3), marked(2))
		wantOff(t, "no power", d)
	}
	d.Fuse(-1)
	wantRead(t, "with power", d, 0, marked(3))
	wantRead(t, "with power", d, 1, marked(4))
	sync(t, d)
	wantSectors(t, "with power", d, marked(3), marked(4))
}

// P8.5: behind Crash there is power, and no fuse, be it burnt down or not.
func TestCrashTakesTheFuse(t *testing.T) {
	for _, n := range []int{0, 1, 3, 5, 19} {
		d := fresh(t, 1)
		d.Fuse(n)
		burn(t, d, min(n, 2))
		d.Crash(nil, -1, 0)
		burn(t, d, 30)
		d.Fuse(0)
		wantOff(t, "behind both", d)
	}
}
