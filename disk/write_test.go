package disk_test

import (
	"fmt"
	"testing"

	"haulage/api"
)

// P8.2, P8.3: sectors that the disk does not have.
func TestWrongSectors(t *testing.T) {
	for _, sectors := range []int{1, 2, 4, 65} {
		d := fresh(t, sectors)
		for _, sector := range wrongSectors(sectors) {
			wantErr(t, fmt.Sprintf("Write(%d)", sector), d.Write(sector, full(1)), api.ErrDiskSector)
			wantNoRead(t, "a wrong sector", d, sector, api.ErrDiskSector)
		}
		wantNum(t, "Pending", d.Pending(), 0)
		wantCounts(t, "wrong sectors", d, 0, 0)
	}
}

// P8.2: bytes that are not a sector.
func TestWrongSizes(t *testing.T) {
	d := fresh(t, 2)
	for _, n := range wrongSizes() {
		wantErr(t, fmt.Sprintf("Write of %d bytes", n), d.Write(1, make([]byte, n)), api.ErrDiskSize)
	}
	wantErr(t, "Write of nil", d.Write(0, nil), api.ErrDiskSize)
	wantErr(t, "Write of 63 bytes with room behind them", d.Write(0, full(1)[:63]), api.ErrDiskSize)
	wantNum(t, "Pending", d.Pending(), 0)
	write(t, d, 1, full(1))
	wantRead(t, "64 bytes", d, 1, full(1))
}

// P8.2, P0.2: the power ahead of the sector, and the sector ahead of the size.
func TestOrderOfErrors(t *testing.T) {
	d := fresh(t, 2)
	for _, n := range append(wrongSizes(), 64) {
		for _, sector := range wrongSectors(2) {
			data := make([]byte, n)
			wantErr(t, "Write", d.Write(sector, data), api.ErrDiskSector)
			d.Fuse(0)
			wantErr(t, "Write without power", d.Write(sector, data), api.ErrDiskPower)
			wantErr(t, "Write without power to a right sector", d.Write(1, data), api.ErrDiskPower)
			wantNoRead(t, "without power", d, sector, api.ErrDiskPower)
			d.Fuse(-1)
		}
	}
}

// P8.2, P8.3: a write waits: it is told, and not safe, until Sync.
func TestWriteWaits(t *testing.T) {
	d := loaded(t, marked(1), marked(2), marked(3))
	write(t, d, 1, marked(4))
	wantNum(t, "Pending", d.Pending(), 1)
	wantRead(t, "pending", d, 0, marked(1))
	wantRead(t, "pending", d, 1, marked(4))
	wantRead(t, "pending", d, 2, marked(3))
	wantImage(t, "pending", d, marked(1), marked(2), marked(3))
	sync(t, d)
	wantSectors(t, "Sync", d, marked(1), marked(4), marked(3))
	wantCounts(t, "Sync", d, 1, 1)
}

// P8.2, P8.3: of several writes to one sector the last one is told, whatever was written elsewhere between and behind, and the last one stays.
func TestSeveralWritesToOneSector(t *testing.T) {
	d := loaded(t, marked(1), marked(2), marked(3))
	for i, sector := range []int{2, 0, 2, 2, 0} {
		write(t, d, sector, full(byte(10+i)))
		wantRead(t, "the newest", d, sector, full(byte(10+i)))
		wantNum(t, "Pending", d.Pending(), i+1)
	}
	wantRead(t, "pending", d, 0, full(14))
	wantRead(t, "pending", d, 1, marked(2))
	wantRead(t, "pending", d, 2, full(13))
	wantImage(t, "pending", d, marked(1), marked(2), marked(3))
	sync(t, d)
	wantSectors(t, "Sync", d, full(14), marked(2), full(13))
	wantCounts(t, "Sync", d, 5, 1)
}

// P8.2: what was carried out once does not come again.
func TestSyncLeavesNothing(t *testing.T) {
	d := fresh(t, 2)
	write(t, d, 0, full(1))
	sync(t, d)
	write(t, d, 0, full(2))
	sync(t, d)
	sync(t, d)
	wantSectors(t, "three syncs", d, full(2), full(0))
	d.Crash([]bool{true, true}, -1, 0)
	wantSectors(t, "Crash", d, full(2), full(0))
	wantCounts(t, "three syncs", d, 2, 3)
}

// P8.2: a sector may be written with what it has, and with zeros; both are writes.
func TestWritesThatChangeNothing(t *testing.T) {
	d := loaded(t, full(5))
	write(t, d, 0, full(5))
	write(t, d, 0, full(0))
	write(t, d, 0, full(5))
	wantNum(t, "Pending", d.Pending(), 3)
	d.Crash([]bool{true, true, false}, -1, 0)
	wantSectors(t, "Crash", d, full(0))
}

// P8.3: the counts are of what was answered OK, over refused calls, Sync and Crash.
func TestCounts(t *testing.T) {
	d := fresh(t, 2)
	wantCounts(t, "New", d, 0, 0)
	write(t, d, 0, full(1))
	write(t, d, 0, full(1))
	wantCounts(t, "two writes", d, 2, 0)
	d.Write(2, full(1))
	d.Write(0, full(1)[:63])
	wantCounts(t, "refused writes", d, 2, 0)
	sync(t, d)
	wantCounts(t, "Sync", d, 2, 1)
	sync(t, d)
	wantCounts(t, "Sync of nothing", d, 2, 2)
	d.Fuse(0)
	d.Write(0, full(1))
	d.Sync()
	wantCounts(t, "no power", d, 2, 2)
	d.Crash(nil, 0, 0)
	wantCounts(t, "Crash", d, 2, 2)
	write(t, d, 1, full(1))
	d.Crash([]bool{true}, -1, 0)
	wantCounts(t, "Crash that keeps", d, 3, 2)
	d.Read(0)
	d.Image()
	d.Fuse(-1)
	wantCounts(t, "what is asked", d, 3, 2)
}

// P8.3: Read, Pending, Counts, Sectors and Image change nothing, and take nothing off the fuse.
func TestAskingChangesNothing(t *testing.T) {
	d := loaded(t, marked(1), marked(2))
	write(t, d, 1, marked(3))
	d.Fuse(1)
	for range 5 {
		wantRead(t, "asked", d, 0, marked(1))
		wantRead(t, "asked", d, 1, marked(3))
		wantNoRead(t, "asked", d, 2, api.ErrDiskSector)
		wantNum(t, "Pending", d.Pending(), 1)
		wantNum(t, "Sectors", d.Sectors(), 2)
		wantCounts(t, "asked", d, 1, 0)
		wantImage(t, "asked", d, marked(1), marked(2))
	}
	sync(t, d)
	wantErr(t, "Sync behind the fuse", d.Sync(), api.ErrDiskPower)
}

// P8.7: what is refused changes nothing: not what is told, nor what waits, nor the fuse.
func TestRefusedCallsChangeNothing(t *testing.T) {
	d := loaded(t, marked(1), marked(2))
	write(t, d, 1, marked(3))
	d.Fuse(2)
	for range 5 {
		d.Write(2, full(9))
		d.Write(-1, full(9))
		d.Write(0, full(9)[:63])
		d.Write(1, append(full(9), 9))
		d.Read(2)
		wantNum(t, "Pending", d.Pending(), 1)
		wantRead(t, "refused", d, 0, marked(1))
		wantRead(t, "refused", d, 1, marked(3))
		wantImage(t, "refused", d, marked(1), marked(2))
	}
	write(t, d, 0, marked(4))
	sync(t, d)
	for range 5 {
		wantErr(t, "Write", d.Write(0, full(9)), api.ErrDiskPower)
		wantErr(t, "Sync", d.Sync(), api.ErrDiskPower)
	}
	wantNum(t, "Pending", d.Pending(), 0)
	d.Fuse(-1)
	wantSectors(t, "with power again", d, marked(4), marked(3))
	wantCounts(t, "with power again", d, 2, 1)
}
