package disk_test

import (
	"bytes"
	"math"
	"testing"

	"haulage/api"
	"haulage/disk"
)

// P8.1: a number of sectors that may not be.
func TestNewOfWrongNumbers(t *testing.T) {
	for _, sectors := range []int{math.MinInt, -65536, -2, -1, 0, 65537, 65538, 1 << 17, 1 << 32, 1<<32 + 1, math.MaxInt} {
		wantNoNew(t, sectors)
	}
}

// P8.1: all bytes are 0, and nothing was done yet.
func TestNew(t *testing.T) {
	for _, sectors := range []int{1, 2, 3, 63, 64, 65, 1000, 65535, 65536} {
		d := fresh(t, sectors)
		wantNum(t, "Sectors", d.Sectors(), sectors)
		wantNum(t, "Pending", d.Pending(), 0)
		wantCounts(t, "New", d, 0, 0)
		wantBytes(t, "Image", d.Image(), make([]byte, 64*sectors))
		wantRead(t, "New", d, 0, full(0))
		wantRead(t, "New", d, sectors-1, full(0))
		wantNoRead(t, "New", d, sectors, api.ErrDiskSector)
	}
}

// P8.1: an image that is no disk.
func TestLoadOfWrongImages(t *testing.T) {
	for _, n := range []int{0, 1, 32, 62, 63, 65, 66, 96, 127, 129, 64*65536 - 1, 64*65536 + 1, 64*65536 + 63, 64 * 65537, 64 * 65538, 64 * 131072} {
		wantNoLoad(t, make([]byte, n))
	}
	wantNoLoad(t, []byte{})
}

// P8.1: the bytes are safe, each where it stood.
func TestLoad(t *testing.T) {
	for _, sectors := range []int{1, 2, 5, 64, 300} {
		var image []byte
		for i := range sectors {
			image = append(image, marked(i)...)
		}
		d, err := disk.Load(image)
		wantErr(t, "Load", err, api.OK)
		wantNum(t, "Sectors", d.Sectors(), sectors)
		wantNum(t, "Pending", d.Pending(), 0)
		wantCounts(t, "Load", d, 0, 0)
		wantBytes(t, "Image", d.Image(), image)
		for i := range sectors {
			wantRead(t, "Load", d, i, marked(i))
		}
		d.Crash(nil, 0, 64)
		wantBytes(t, "Image behind Crash", d.Image(), image)
	}
}

// P8.1, P8.2: the greatest disk, from its first sector to its last.
func TestTheGreatestDisk(t *testing.T) {
	image := bytes.Repeat(marked(3), 65536)
	d, err := disk.Load(image)
	wantErr(t, "Load", err, api.OK)
	wantNum(t, "Sectors", d.Sectors(), 65536)
	write(t, d, 0, full(1))
	write(t, d, 65535, full(2))
	wantErr(t, "Write(65536)", d.Write(65536, full(3)), api.ErrDiskSector)
	wantBytes(t, "Image ahead of Sync", d.Image(), image)
	sync(t, d)
	copy(image, full(1))
	copy(image[64*65535:], full(2))
	wantBytes(t, "Image", d.Image(), image)
	wantRead(t, "Sync", d, 65535, full(2))
	wantRead(t, "Sync", d, 65534, marked(3))
}

// P8.1, P8.6: an image, loaded, is the same image; what waited is not of it.
func TestLoadOfAnImage(t *testing.T) {
	d := loaded(t, marked(1), marked(2), marked(3))
	write(t, d, 1, full(9))
	sync(t, d)
	write(t, d, 2, full(8))
	d.Fuse(0)
	other, err := disk.Load(d.Image())
	wantErr(t, "Load", err, api.OK)
	wantSectors(t, "Load of Image", other, marked(1), full(9), marked(3))
	wantCounts(t, "Load of Image", other, 0, 0)
}

// P0.1, P8.1 to P8.6: a nil disk at each call; ErrNil comes ahead of all others.
func TestNilDisk(t *testing.T) {
	var none *disk.Disk
	for _, sector := range append(wrongSectors(4), 0, 1, 3) {
		for _, n := range append(wrongSizes(), 64) {
			wantErr(t, "Write", none.Write(sector, make([]byte, n)), api.ErrNil)
		}
		wantErr(t, "Write of nil", none.Write(sector, nil), api.ErrNil)
		wantNoRead(t, "nil", none, sector, api.ErrNil)
		none.Fuse(sector)
		none.Crash([]bool{true}, sector, sector)
		none.Crash(nil, 0, sector)
	}
	wantErr(t, "Sync", none.Sync(), api.ErrNil)
	wantNum(t, "Sectors", none.Sectors(), 0)
	wantNum(t, "Pending", none.Pending(), 0)
	wantImage(t, "nil", none)
	wantCounts(t, "nil", none, 0, 0)

	refused, _ := disk.New(0)
	wantErr(t, "Sync of a disk that was refused", refused.Sync(), api.ErrNil)
}
