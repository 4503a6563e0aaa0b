package wal_test

import (
	"bytes"
	"encoding/binary"
	"fmt"
	"hash/crc32"
	"slices"
	"testing"

	"haulage/api"
	"haulage/disk"
	"haulage/wal"
)

// The kinds of sectors, as the chapter numbers them.
const (
	head = 1
	part = 2
	last = 3
)

// zeros is an empty sector.
func zeros() []byte { return make([]byte, 64) }

// full is a sector of one byte.
func full(b byte) []byte { return bytes.Repeat([]byte{b}, 64) }

// sumUp lays the right sum and the end mark behind the first 59 bytes, made by the library's own CRC.
func sumUp(sector []byte) []byte {
	p := slices.Clone(sector)
	binary.BigEndian.PutUint32(p[59:], crc32.Checksum(p[:59], crc32.MakeTable(crc32.Castagnoli)))
	p[63] = 165
	return p
}

// sectorOf is a sector of a log as the chapter tells it.
func sectorOf(kind byte, held []byte) []byte {
	p := zeros()
	p[0], p[1] = kind, byte(len(held))
	copy(p[2:59], held)
	return sumUp(p)
}

// headOf is the head of a generation.
func headOf(gen uint64) []byte { return sectorOf(head, binary.BigEndian.AppendUint64(nil, gen)) }

// piecesOf are the sectors of a record.
func piecesOf(record []byte) [][]byte {
	var all [][]byte
	for piece := range slices.Chunk(record, 57) {
		all = append(all, sectorOf(part, piece))
	}
	if len(all) == 0 {
		return [][]byte{sectorOf(last, nil)}
	}
	end := len(all) - 1
	all[end] = sectorOf(last, record[end*57:])
	return all
}

// standing are the sectors of a log in a region of so many.
func standing(size int, gen uint64, records ...[]byte) [][]byte {
	all := [][]byte{headOf(gen)}
	for _, r := range records {
		all = append(all, piecesOf(r)...)
	}
	for len(all) < size {
		all = append(all, zeros())
	}
	return all
}

// text is a record of n bytes that are all unlike their neighbours, and no two texts of unlike marks begin alike. No byte is 0.
func text(n, mark int) []byte {
	p := make([]byte, n)
	for i := range p {
		p[i] = byte(1 + (mark*41+i*7)%255)
	}
	return p
}

func fresh(t *testing.T, sectors int) *disk.Disk {
	t.Helper()
	d, err := disk.New(sectors)
	wantErr(t, "New of a disk", err, api.OK)
	return d
}

// loaded is a disk on which these sectors are safe.
func loaded(t *testing.T, sectors ...[]byte) *disk.Disk {
	t.Helper()
	d, err := disk.Load(slices.Concat(sectors...))
	wantErr(t, "Load of a disk", err, api.OK)
	return d
}

// made is a Make that goes well.
func made(t *testing.T, d *disk.Disk, from, n, gen int) *wal.Log {
	t.Helper()
	l, err := wal.Make(d, from, n, gen)
	wantErr(t, fmt.Sprintf("Make(%d, %d, %d)", from, n, gen), err, api.OK)
	if l == nil {
		t.Fatalf("Make(%d, %d, %d): no log", from, n, gen)
	}
	return l
}

// opened is an Open that goes well, with these records.
func opened(t *testing.T, what string, d *disk.Disk, from, n int, records ...[]byte) *wal.Log {
	t.Helper()
	l, got, err := wal.Open(d, from, n)
	wantErr(t, fmt.Sprintf("%s: Open(%d, %d)", what, from, n), err, api.OK)
	if l == nil {
		t.Fatalf("%s: Open(%d, %d): no log", what, from, n)
	}
	wantRecords(t, what, got, records...)
	return l
}

func wantErr(t *testing.T, what string, got, wanted api.Errno) {
	t.Helper()
	if got != wanted {
		t.Fatalf("%s: error %d, want %d", what, got, wanted)
	}
}

func wantNum(t *testing.T, what string, got, wanted int) {
	t.Helper()
	if got != wanted {
		t.Fatalf("%s: %d, want %d", what, got, wanted)
	}
}

// wantBytes compares bytes; nil and empty are the same.
func wantBytes(t *testing.T, what string, got, wanted []byte) {
	t.Helper()
	if !bytes.Equal(got, wanted) {
		t.Fatalf("%s: %v, want %v", what, got, wanted)
	}
}

func wantRecords(t *testing.T, what string, got [][]byte, wanted ...[]byte) {
	t.Helper()
	wantNum(t, what+": how many records", len(got), len(wanted))
	for i := range wanted {
		wantBytes(t, fmt.Sprintf("%s: record %d", what, i), got[i], wanted[i])
	}
}

// wantLog asks for all that a log tells.
func wantLog(t *testing.T, what string, l *wal.Log, gen, count, synced, used, room int) {
	t.Helper()
	wantNum(t, what+": Gen", l.Gen(), gen)
	wantNum(t, what+": Len", l.Len(), count)
	wantNum(t, what+": Synced", l.Synced(), synced)
	wantNum(t, what+": Used", l.Used(), used)
	wantNum(t, what+": Room", l.Room(), room)
}

// wantSafe asks for the safe sectors, all of them.
func wantSafe(t *testing.T, what string, d *disk.Disk, sectors ...[]byte) {
	t.Helper()
	wantNum(t, what+": sectors", d.Sectors(), len(sectors))
	image := d.Image()
	for i, p := range sectors {
		wantBytes(t, fmt.Sprintf("%s: safe sector %d", what, i), image[64*i:64*i+64], p)
	}
}

// wantDisk asks for sectors that are safe, with nothing pending.
func wantDisk(t *testing.T, what string, d *disk.Disk, sectors ...[]byte) {
	t.Helper()
	wantNum(t, what+": Pending", d.Pending(), 0)
	wantSafe(t, what, d, sectors...)
}

// wantCounts asks how many writes and syncs there were.
func wantCounts(t *testing.T, what string, d *disk.Disk, writes, syncs int) {
	t.Helper()
	w, s := d.Counts()
	if w != writes || s != syncs {
		t.Fatalf("%s: Counts: %d %d, want %d %d", what, w, s, writes, syncs)
	}
}

// add appends records that fit.
func add(t *testing.T, l *wal.Log, records ...[]byte) {
	t.Helper()
	for i, r := range records {
		wantErr(t, fmt.Sprintf("Append %d, of %d bytes", i, len(r)), l.Append(r), api.OK)
	}
}

// sync is a Sync of a log that goes well.
func sync(t *testing.T, l *wal.Log) {
	t.Helper()
	wantErr(t, "Sync", l.Sync(), api.OK)
}

// wantNoLog asks for an Open that is refused, and changes nothing on the disk.
func wantNoLog(t *testing.T, what string, d *disk.Disk, from, n int, wanted api.Errno) {
	t.Helper()
	image, pending := d.Image(), d.Pending()
	writes, syncs := d.Counts()
	l, records, err := wal.Open(d, from, n)
	wantErr(t, fmt.Sprintf("%s: Open(%d, %d)", what, from, n), err, wanted)
	if l != nil || len(records) != 0 {
		t.Fatalf("%s: Open(%d, %d): a log: %v, %d records beside an error", what, from, n, l != nil, len(records))
	}
	wantBytes(t, what+": Image behind Open", d.Image(), image)
	wantNum(t, what+": Pending behind Open", d.Pending(), pending)
	wantCounts(t, what+": behind Open", d, writes, syncs)
}

// wantOpenLost asks for an Open within which the power goes: no log, no records.
func wantOpenLost(t *testing.T, what string, d *disk.Disk, from, n int) {
	t.Helper()
	l, records, err := wal.Open(d, from, n)
	wantErr(t, fmt.Sprintf("%s: Open(%d, %d)", what, from, n), err, api.ErrDiskPower)
	if l != nil || len(records) != 0 {
		t.Fatalf("%s: Open(%d, %d): a log: %v, %d records beside an error", what, from, n, l != nil, len(records))
	}
}
