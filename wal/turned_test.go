package wal_test

import (
	"fmt"
	"testing"

	"haulage/api"
	"haulage/disk"
)

// turnedDisk is a log on a disk whose one byte is another.
func turnedDisk(t *testing.T, rows [][]byte, sector, at int, by byte) *disk.Disk {
	t.Helper()
	all := append([][]byte(nil), rows...)
	all[sector] = with(rows[sector], at, rows[sector][at]^by)
	return loaded(t, all...)
}

// P11.9: each of the first 63 bytes of each sector that the head or a record takes, turned into every other byte.
func TestEachByteTurned(t *testing.T) {
	records := [][]byte{nil, text(57, 1), text(58, 2), {0}, zeros()}
	rows := standing(10, 300, records...)
	for sector := range 8 {
		for at := range 63 {
			for by := 1; by < 256; by++ {
				if sector > 0 && at == 0 && byte(by) == rows[sector][0] {
					continue // its first byte is 0 then
				}
				d := turnedDisk(t, rows, sector, at, byte(by))
				wantNoLog(t, fmt.Sprintf("sector %d, byte %d, turned by %d", sector, at, by), d, 0, 10, api.ErrWalForm)
			}
		}
	}
}

// P11.9: a first byte 0 is what a torn wipe leaves: of the head no log stands, of a record the log ends ahead of it.
func TestFirstByteWiped(t *testing.T) {
	records := [][]byte{nil, text(57, 1), text(58, 2), {0}, zeros()}
	rows := standing(10, 300, records...)
	wantNoLog(t, "the head", turnedDisk(t, rows, 0, 0, rows[0][0]), 0, 10, api.ErrWalForm)
	for sector := 1; sector < 8; sector++ {
		what := fmt.Sprintf("sector %d", sector)
		d := turnedDisk(t, rows, sector, 0, rows[sector][0])
		count := []int{0, 1, 2, 2, 3, 4, 4}[sector-1]
		opened(t, what, d, 0, 10, records[:count]...)
		wantDisk(t, what, d, standing(10, 300, records[:count]...)...)
	}
}

// P11.9: a turned last byte of a record's sector ends the log ahead of it, one of the head's is no log.
func TestLastByteTurned(t *testing.T) {
	rows := standing(6, 2, text(3, 1), text(58, 2))
	for by := 1; by < 256; by++ {
		wantNoLog(t, "the head", turnedDisk(t, rows, 0, 63, byte(by)), 0, 6, api.ErrWalForm)
		opened(t, "the first record", turnedDisk(t, rows, 1, 63, byte(by)), 0, 6)
		opened(t, "the second one's first piece", turnedDisk(t, rows, 2, 63, byte(by)), 0, 6, text(3, 1))
		opened(t, "the second one's last piece", turnedDisk(t, rows, 3, 63, byte(by)), 0, 6, text(3, 1))
	}
}
