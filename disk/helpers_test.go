package disk_test

import (
	"bytes"
	"fmt"
	"math"
	"slices"
	"testing"

	"haulage/api"
	"haulage/disk"
)

// full is a sector of one byte.
func full(b byte) []byte { return bytes.Repeat([]byte{b}, 64) }

// torn is a sector that begins with cut bytes of one kind and goes on with others.
func torn(b byte, cut int, rest byte) []byte { return append(full(b)[:cut:cut], full(rest)[cut:]...) }

// marked is a sector whose bytes are all unlike, so that a byte in a wrong place shows.
func marked(number int) []byte {
	p := make([]byte, 64)
	for i := range p {
		p[i] = byte(number*67 + i*3 + 1)
	}
	return p
}

// join lays sectors one behind the other.
func join(sectors ...[]byte) []byte { return slices.Concat(sectors...) }

// fresh is a disk of zeros.
func fresh(t *testing.T, sectors int) *disk.Disk {
	t.Helper()
	d, err := disk.New(sectors)
	if d == nil || err != api.OK {
		t.Fatalf("New(%d): %v, error %d", sectors, d, err)
	}
	return d
}

// loaded is a disk on which these sectors are safe.
func loaded(t *testing.T, sectors ...[]byte) *disk.Disk {
	t.Helper()
	d, err := disk.Load(join(sectors...))
	if d == nil || err != api.OK {
		t.Fatalf("Load of %d sectors: %v, error %d", len(sectors), d, err)
	}
	return d
}

func wantErr(t *testing.T, what string, got, wanted api.Errno) {
	t.Helper()
	if got != wanted {
		t.Fatalf("%s: error %d, want %d", what, got, wanted)
	}
}

func wantNum(t *testing.T, what string, got, wanted int) {
	t.Helper()
	if got != wanted {
		t.Fatalf("%s: %d, want %d", what, got, wanted)
	}
}

// wantBytes compares bytes; nil and empty are the same.
func wantBytes(t *testing.T, what string, got, wanted []byte) {
	t.Helper()
	if !bytes.Equal(got, wanted) {
		t.Fatalf("%s: %v, want %v", what, got, wanted)
	}
}

// write is a Write that goes well.
func write(t *testing.T, d *disk.Disk, sector int, data []byte) {
	t.Helper()
	wantErr(t, fmt.Sprintf("Write(%d)", sector), d.Write(sector, data), api.OK)
}

// sync is a Sync that goes well.
func sync(t *testing.T, d *disk.Disk) {
	t.Helper()
	wantErr(t, "Sync", d.Sync(), api.OK)
}

// wantRead asks for the bytes of a sector.
func wantRead(t *testing.T, what string, d *disk.Disk, sector int, wanted []byte) {
	t.Helper()
	p, err := d.Read(sector)
	wantErr(t, fmt.Sprintf("%s: Read(%d)", what, sector), err, api.OK)
	wantBytes(t, fmt.Sprintf("%s: Read(%d)", what, sector), p, wanted)
}

// wantNoRead asks for an error, and for no bytes beside it.
func wantNoRead(t *testing.T, what string, d *disk.Disk, sector int, wanted api.Errno) {
	t.Helper()
	p, err := d.Read(sector)
	wantErr(t, fmt.Sprintf("%s: Read(%d)", what, sector), err, wanted)
	wantNum(t, fmt.Sprintf("%s: Read(%d): bytes", what, sector), len(p), 0)
}

// wantImage asks for the safe sectors.
func wantImage(t *testing.T, what string, d *disk.Disk, wanted ...[]byte) {
	t.Helper()
	wantBytes(t, what+": Image", d.Image(), join(wanted...))
}

// wantSectors asks for sectors that are told and safe alike, with nothing pending.
func wantSectors(t *testing.T, what string, d *disk.Disk, wanted ...[]byte) {
	t.Helper()
	wantNum(t, what+": Sectors", d.Sectors(), len(wanted))
	wantNum(t, what+": Pending", d.Pending(), 0)
	wantImage(t, what, d, wanted...)
	for i, p := range wanted {
		wantRead(t, what, d, i, p)
	}
}

func wantCounts(t *testing.T, what string, d *disk.Disk, writes, syncs int) {
	t.Helper()
	w, s := d.Counts()
	if w != writes || s != syncs {
		t.Fatalf("%s: Counts: %d %d, want %d %d", what, w, s, writes, syncs)
	}
}

// wrongSectors are numbers of sectors that a disk of so many does not have.
func wrongSectors(sectors int) []int {
	return []int{math.MinInt, -65536, -64, -2, -1, sectors, sectors + 1, sectors + 64, 65536, 1 << 32, math.MaxInt}
}

// wrongSizes are lengths that no sector has.
func wrongSizes() []int { return []int{0, 1, 32, 62, 63, 65, 66, 127, 128, 192, 4096} }
