package disk_test

import (
	"testing"

	"haulage/api"
	"haulage/disk"
)

// P8.1 to P8.6: the rows of "Examples", one behind the other on one disk.
func TestExamples(t *testing.T) {
	d := fresh(t, 4)
	write(t, d, 1, full(7))
	wantRead(t, "the first row", d, 1, full(7))
	wantNum(t, "Pending", d.Pending(), 1)
	wantNum(t, "byte 64 of Image", int(d.Image()[64]), 0)
	wantCounts(t, "the first row", d, 1, 0)

	d.Crash([]bool{}, -1, 0)
	wantRead(t, "behind Crash", d, 1, full(0))
	wantNum(t, "Pending", d.Pending(), 0)

	write(t, d, 1, full(7))
	write(t, d, 1, full(8))
	d.Crash([]bool{true}, 1, 3)
	wantRead(t, "torn", d, 1, torn(8, 3, 7))

	d.Fuse(1)
	write(t, d, 0, full(1))
	wantErr(t, "Write(9, 1 byte)", d.Write(9, []byte{1}), api.ErrDiskPower)
	wantNoRead(t, "no power", d, 0, api.ErrDiskPower)
	wantErr(t, "Sync", d.Sync(), api.ErrDiskPower)
	wantNum(t, "Pending", d.Pending(), 1)

	d.Fuse(-1)
	sync(t, d)
	wantNum(t, "Pending", d.Pending(), 0)
	wantCounts(t, "all rows so far", d, 4, 1)
	wantSectors(t, "all rows so far", d, full(1), torn(8, 3, 7), full(0), full(0))
}

// P8.1: the row of "Examples" in which there is no disk.
func TestExamplesWithoutADisk(t *testing.T) {
	wantNoNew(t, 0)
	wantNoNew(t, 65537)
	wantNoLoad(t, make([]byte, 63))
	wantNoLoad(t, nil)
}

func wantNoNew(t *testing.T, sectors int) {
	t.Helper()
	if d, err := disk.New(sectors); d != nil || err != api.ErrArg {
		t.Fatalf("New(%d): a disk: %v, error %d", sectors, d != nil, err)
	}
}

func wantNoLoad(t *testing.T, image []byte) {
	t.Helper()
	if d, err := disk.Load(image); d != nil || err != api.ErrDiskSize {
		t.Fatalf("Load of %d bytes: a disk: %v, error %d", len(image), d != nil, err)
	}
}
