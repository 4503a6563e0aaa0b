package shot_test

import (
	"bytes"
	"encoding/binary"
	"fmt"
	"hash/crc32"
	"slices"
	"testing"

	"haulage/api"
	"haulage/disk"
	"haulage/shot"
)

// maxTime is the last generation.
const maxTime = 1 << 40

// zeros is an empty sector.
func zeros() []byte { return make([]byte, 64) }

// full is a sector of one byte.
func full(b byte) []byte { return bytes.Repeat([]byte{b}, 64) }

// sumOf is the library's own CRC.
func sumOf(p []byte) uint32 { return crc32.Checksum(p, crc32.MakeTable(crc32.Castagnoli)) }

// sumUp lays the right sum behind the first 59 bytes of a head.
func sumUp(head []byte) []byte {
	p := slices.Clone(head)
	binary.BigEndian.PutUint32(p[59:], sumOf(p[:59]))
	return p
}

// headSaying is a head as the chapter tells it, whatever it says.
func headSaying(gen uint64, length, sum uint32) []byte {
	p := []byte{83, 72, 79, 84}
	p = binary.BigEndian.AppendUint64(p, gen)
	p = binary.BigEndian.AppendUint32(p, length)
	p = binary.BigEndian.AppendUint32(p, sum)
	p = append(p, make([]byte, 39+4)...)
	return sumUp(append(p, 165))
}

// headFor is the head of a snapshot.
func headFor(gen uint64, data []byte) []byte {
	return headSaying(gen, uint32(len(data)), sumOf(data))
}

// bodyOf are the sectors that data fills.
func bodyOf(data []byte) [][]byte {
	var all [][]byte
	for piece := range slices.Chunk(data, 64) {
		all = append(all, append(slices.Clone(piece), make([]byte, 64-len(piece))...))
	}
	return all
}

// standing are the sectors of a slot of so many in which a snapshot stands, zeros behind it.
func standing(size int, gen uint64, data []byte) [][]byte {
	all := append([][]byte{headFor(gen, data)}, bodyOf(data)...)
	for len(all) < size {
		all = append(all, zeros())
	}
	return all
}

// empty are the sectors of a slot on which nothing was written.
func empty(size int) [][]byte { return slices.Repeat([][]byte{zeros()}, size) }

// text is data of n bytes that are all unlike their neighbours, and no two texts of unlike marks begin alike. No byte is 0.
func text(n, mark int) []byte {
	p := make([]byte, n)
	for i := range p {
		p[i] = byte(1 + (mark*41+i*7)%255)
	}
	return p
}

// with is a sector of which one byte is another.
func with(sector []byte, at int, b byte) []byte {
	p := slices.Clone(sector)
	p[at] = b
	return p
}

func fresh(t *testing.T, sectors int) *disk.Disk {
	t.Helper()
	d, err := disk.New(sectors)
	wantErr(t, "New of a disk", err, api.OK)
	return d
}

// loaded is a disk on which these sectors are safe.
func loaded(t *testing.T, sectors ...[]byte) *disk.Disk {
	t.Helper()
	d, err := disk.Load(slices.Concat(sectors...))
	wantErr(t, "Load of a disk", err, api.OK)
	return d
}

// again is a disk with the same safe sectors.
func again(t *testing.T, d *disk.Disk) *disk.Disk {
	t.Helper()
	other, err := disk.Load(d.Image())
	wantErr(t, "Load of an image", err, api.OK)
	return other
}

// opened is an Open that goes well, changes nothing on the disk, and finds this generation and data.
func opened(t *testing.T, what string, d *disk.Disk, from, size, gen int, data []byte) *shot.Shots {
	t.Helper()
	what = fmt.Sprintf("%s: Open(%d, %d)", what, from, size)
	var s *shot.Shots
	wantUntouched(t, what, d, func() {
		made, got, err := shot.Open(d, from, size)
		wantErr(t, what, err, api.OK)
		if made == nil {
			t.Fatalf("%s: no object", what)
		}
		wantBytes(t, what+": data", got, data)
		s = made
	})
	wantShots(t, what, s, gen, 64*(size-1))
	return s
}

// wantNotOpened asks for an Open that is refused, and changes nothing on the disk.
func wantNotOpened(t *testing.T, d *disk.Disk, from, size int, wanted api.Errno) {
	t.Helper()
	what := fmt.Sprintf("Open(%d, %d)", from, size)
	wantUntouched(t, what, d, func() {
		s, data, err := shot.Open(d, from, size)
		wantErr(t, what, err, wanted)
		if s != nil || len(data) != 0 {
			t.Fatalf("%s: an object: %v, %d bytes beside an error", what, s != nil, len(data))
		}
	})
}

// wantUntouched asks that a call changes nothing on the disk.
func wantUntouched(t *testing.T, what string, d *disk.Disk, call func()) {
	t.Helper()
	image, pending := d.Image(), d.Pending()
	writes, syncs := d.Counts()
	call()
	wantBytes(t, what+": Image behind it", d.Image(), image)
	wantNum(t, what+": Pending behind it", d.Pending(), pending)
	wantCounts(t, what+": behind it", d, writes, syncs)
}

// save is a Save that goes well.
func save(t *testing.T, s *shot.Shots, data []byte) {
	t.Helper()
	gen := s.Gen()
	wantErr(t, fmt.Sprintf("Save of %d bytes", len(data)), s.Save(data), api.OK)
	wantNum(t, "Gen behind a Save", s.Gen(), gen+1)
}

func wantErr(t *testing.T, what string, got, wanted api.Errno) {
	t.Helper()
	if got != wanted {
		t.Fatalf("%s: error %d, want %d", what, got, wanted)
	}
}

func wantNum(t *testing.T, what string, got, wanted int) {
	t.Helper()
	if got != wanted {
		t.Fatalf("%s: %d, want %d", what, got, wanted)
	}
}

// wantBytes compares bytes; nil and empty are the same.
func wantBytes(t *testing.T, what string, got, wanted []byte) {
	t.Helper()
	if !bytes.Equal(got, wanted) {
		t.Fatalf("%s: %v, want %v", what, got, wanted)
	}
}

// wantShots asks for all that an object tells.
func wantShots(t *testing.T, what string, s *shot.Shots, gen, most int) {
	t.Helper()
	wantNum(t, what+": Gen", s.Gen(), gen)
	wantNum(t, what+": Most", s.Most(), most)
}

// wantSafe asks for the safe sectors, all of them.
func wantSafe(t *testing.T, what string, d *disk.Disk, sectors ...[]byte) {
	t.Helper()
	wantNum(t, what+": sectors", d.Sectors(), len(sectors))
	image := d.Image()
	for i, p := range sectors {
		wantBytes(t, fmt.Sprintf("%s: safe sector %d", what, i), image[64*i:64*i+64], p)
	}
}

// wantDisk asks for sectors that are safe, with nothing pending.
func wantDisk(t *testing.T, what string, d *disk.Disk, sectors ...[]byte) {
	t.Helper()
	wantNum(t, what+": Pending", d.Pending(), 0)
	wantSafe(t, what, d, sectors...)
}

// wantCounts asks how many writes and syncs there were.
func wantCounts(t *testing.T, what string, d *disk.Disk, writes, syncs int) {
	t.Helper()
	w, s := d.Counts()
	if w != writes || s != syncs {
		t.Fatalf("%s: Counts: %d %d, want %d %d", what, w, s, writes, syncs)
	}
}
