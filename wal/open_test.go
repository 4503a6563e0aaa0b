package wal_test

import (
	"encoding/binary"
	"fmt"
	"slices"
	"testing"

	"haulage/api"
	"haulage/disk"
)

// with is a copy of a sector in which one byte is another.
func with(sector []byte, at int, b byte) []byte {
	p := slices.Clone(sector)
	p[at] = b
	return p
}

// P11.3: no disk, no region; told ahead of a power that is off, and of what stands there.
func TestOpenRefuses(t *testing.T) {
	for _, p := range append(wrongPlaces(6), place{0, 6}) {
		wantNoLog(t, "no disk", nil, p.from, p.n, api.ErrNil)
	}
	d := loaded(t, standing(6, 1, text(3, 1))...)
	d.Write(5, full(9))
	for range 2 {
		for _, p := range wrongPlaces(6) {
			wantNoLog(t, "no region", d, p.from, p.n, api.ErrArg)
		}
		d.Fuse(0)
	}
	wantNoLog(t, "no power", d, 0, 6, api.ErrDiskPower)
	wantNoLog(t, "no power, no log", d, 1, 4, api.ErrDiskPower)
	wantNoLog(t, "a Disk that New did not make", &disk.Disk{}, 0, 2, api.ErrArg)
}

// P11.3: regions of every kind of place.
func TestOpenPlaces(t *testing.T) {
	for from := range 5 {
		for n := 2; from+n <= 6; n++ {
			what := fmt.Sprintf("Open(%d, %d)", from, n)
			rows := slices.Repeat([][]byte{full(77)}, 6)
			copy(rows[from:], standing(n, 8, text(7, 1)))
			d := loaded(t, rows...)
			wantLog(t, what, opened(t, what, d, from, n, text(7, 1)), 8, 1, 1, 2, n-2)
			wantDisk(t, what, d, rows...)
			wantCounts(t, what, d, 0, 0)
		}
	}
}

// P11.3: what is no head: no log stands there.
func TestOpenHeads(t *testing.T) {
	right := headOf(7)
	wrong := map[string][]byte{
		"zeros":                 zeros(),
		"bytes":                 full(9),
		"end marks":             full(165),
		"another last byte":     with(right, 63, 164),
		"no last byte":          with(right, 63, 0),
		"no first byte":         with(right, 0, 0),
		"no first byte, summed": sumUp(with(right, 0, 0)),
		"another CRC":           with(right, 60, right[60]^1),
		"kind 2":                sectorOf(2, text(8, 1)),
		"kind 2, 57 bytes":      sectorOf(2, text(57, 1)),
		"kind 3":                sumUp(with(right, 0, 3)),
		"kind 4":                sumUp(with(right, 0, 4)),
		"kind 255":              sumUp(with(right, 0, 255)),
		"no bytes":              sectorOf(head, nil),
		"7 bytes":               sectorOf(head, []byte{0, 0, 0, 0, 0, 0, 7}),
		"9 bytes":               sectorOf(head, []byte{0, 0, 0, 0, 0, 0, 0, 7, 0}),
		"9 bytes, 0 first":      sectorOf(head, []byte{0, 0, 0, 0, 0, 0, 0, 0, 7}),
		"57 bytes":              sectorOf(head, make([]byte, 57)),
		"58 bytes":              sumUp(with(right, 1, 58)),
		"255 bytes":             sumUp(with(right, 1, 255)),
		"a byte behind":         sumUp(with(right, 10, 1)),
		"a byte far behind":     sumUp(with(right, 58, 1)),
		"generation 0":          headOf(0),
		"beyond MaxTime":        headOf(1<<40 + 1),
		"far beyond MaxTime":    headOf(1<<63 - 1),
		"the highest bit":       headOf(1 << 63),
		"below 0":               headOf(1<<64 - 1),
		"the lowest byte first": sectorOf(head, binary.LittleEndian.AppendUint64(nil, 7)),
	}
	for what, first := range wrong {
		d := loaded(t, first, sectorOf(last, text(2, 1)), full(9), full(77))
		wantNoLog(t, what, d, 0, 3, api.ErrWalForm)
	}
	for _, gen := range []int{1, 7, 255, 256, 1<<40 - 1, 1 << 40} {
		what := fmt.Sprintf("generation %d", gen)
		d := loaded(t, headOf(uint64(gen)), sectorOf(last, text(2, 1)), zeros())
		wantLog(t, what, opened(t, what, d, 0, 3, text(2, 1)), gen, 1, 1, 2, 1)
	}
}

// wantWrong lays a sector in the place of each piece of a log's, and behind the last one; no log stands there.
func wantWrong(t *testing.T, what string, sector []byte) {
	t.Helper()
	rows := standing(7, 1, text(3, 1), text(58, 2), text(4, 3))
	for at := 1; at < 6; at++ {
		d := loaded(t, slices.Concat(rows[:at], [][]byte{sector}, rows[at+1:])...)
		wantNoLog(t, fmt.Sprintf("%s, at %d", what, at), d, 0, 7, api.ErrWalForm)
	}
	d := loaded(t, slices.Concat(rows[:2], [][]byte{sector}, slices.Repeat([][]byte{zeros()}, 4))...)
	wantNoLog(t, what+", at the end", d, 0, 7, api.ErrWalForm)
	d = loaded(t, rows[0], rows[1], sector)
	wantNoLog(t, what+", at the region's end", d, 0, 3, api.ErrWalForm)
	d = loaded(t, rows[0], rows[1], zeros(), sector)
	opened(t, what+", behind one that is not whole", d, 0, 4, text(3, 1))
	wantDisk(t, what+", behind one that is not whole", d, standing(4, 1, text(3, 1))...)
}

// P11.3: sectors that are whole but not right, or that can't stand behind a head.
func TestOpenWrongSectors(t *testing.T) {
	short, long := sectorOf(last, text(3, 5)), sectorOf(part, text(57, 6))
	wrong := map[string][]byte{
		"another CRC":               with(short, 59, short[59]^128),
		"another CRC at its end":    with(short, 62, short[62]^1),
		"another byte":              with(short, 3, short[3]^1),
		"58 bytes":                  sumUp(with(short, 1, 58)),
		"59 bytes":                  sumUp(with(long, 1, 59)),
		"255 bytes":                 sumUp(with(short, 1, 255)),
		"fewer bytes than there":    sumUp(with(short, 1, 2)),
		"a byte behind":             sumUp(with(short, 5, 1)),
		"a byte far behind":         sumUp(with(short, 58, 1)),
		"no bytes, a byte behind":   sumUp(with(sectorOf(last, nil), 2, 1)),
		"a head":                    headOf(1),
		"a head of 57 bytes":        sectorOf(head, text(57, 1)),
		"kind 4":                    sectorOf(4, text(3, 1)),
		"kind 4 of 57 bytes":        sectorOf(4, text(57, 1)),
		"kind 255":                  sectorOf(255, text(57, 1)),
		"kind 2 of 56 bytes":        sectorOf(part, text(56, 1)),
		"kind 2 of 1 byte":          sectorOf(part, text(1, 1)),
		"kind 2 of no bytes":        sectorOf(part, nil),
		"end marks":                 full(165),
		"an end mark and one ahead": with(with(zeros(), 0, 1), 63, 165),
	}
	for what, sector := range wrong {
		wantWrong(t, what, sector)
	}
}

// P11.3: a sector that is not whole ends the records, and it and all behind it is wiped.
func TestOpenNotWhole(t *testing.T) {
	short := sectorOf(last, text(3, 5))
	ends := map[string][]byte{
		"zeros":                      zeros(),
		"another last byte":          with(short, 63, 164),
		"a last byte 0":              with(short, 63, 0),
		"a last byte 255":            with(short, 63, 255),
		"a first byte 0":             with(short, 0, 0),
		"a first byte 0, summed":     sumUp(with(short, 0, 0)),
		"a first byte alone":         with(zeros(), 0, 3),
		"an end mark alone":          with(zeros(), 63, 165),
		"bytes":                      full(7),
		"a head without end":         with(headOf(1), 63, 0),
		"too long, and without end":  with(sumUp(with(short, 1, 58)), 63, 1),
		"one byte in the midst":      with(zeros(), 30, 1),
		"a torn one":                 slices.Concat(short[:20], zeros()[20:]),
		"a torn one but for its end": slices.Concat(short[:63], []byte{0}),
	}
	rows := standing(7, 4, text(3, 1), text(58, 2), text(4, 3))
	for what, sector := range ends {
		for at := 1; at < 7; at++ {
			place := fmt.Sprintf("%s, at %d", what, at)
			d := loaded(t, slices.Concat(rows[:at], [][]byte{sector}, rows[at+1:])...)
			count := []int{0, 1, 1, 2, 3, 3}[at-1]
			used := []int{1, 2, 4, 5}[count]
			records := [][]byte{text(3, 1), text(58, 2), text(4, 3)}[:count]
			wantLog(t, place, opened(t, place, d, 0, 7, records...), 4, count, count, used, 7-used)
			wantDisk(t, place, d, standing(7, 4, records...)...)
		}
	}
}

// P11.3: pieces without a last one are none of the log's, and are wiped; what is appended then takes their place.
func TestOpenWithoutALastPiece(t *testing.T) {
	long := piecesOf(text(200, 2))
	for n := range 4 {
		for _, full := range []bool{false, true} {
			what := fmt.Sprintf("%d pieces, to the region's end: %v", n, full)
			rows := slices.Concat([][]byte{headOf(2)}, piecesOf(text(3, 1)), long[:n])
			if !full {
				rows = append(rows, zeros(), zeros())
			}
			d := loaded(t, rows...)
			l := opened(t, what, d, 0, len(rows), text(3, 1))
			wantLog(t, what, l, 2, 1, 1, 2, len(rows)-2)
			wantDisk(t, what, d, standing(len(rows), 2, text(3, 1))...)
			syncs := 1
			if n == 0 {
				syncs = 0
			}
			wantCounts(t, what, d, n, syncs)
			if l.Room() > 0 {
				add(t, l, text(57*l.Room(), 9))
				sync(t, l)
				opened(t, what+", filled", d, 0, len(rows), text(3, 1), text(57*(len(rows)-2), 9))
			}
		}
	}
	d := loaded(t, slices.Concat([][]byte{headOf(2)}, long[:3])...)
	wantLog(t, "pieces alone", opened(t, "pieces alone", d, 0, 4), 2, 0, 0, 1, 3)
}

// P11.3: a last piece without bytes stands alone, never behind one of kind 2.
func TestOpenEmptyLastPiece(t *testing.T) {
	first, empty := sectorOf(part, text(57, 1)), sectorOf(last, nil)
	for what, rows := range map[string][][]byte{
		"behind one":        {headOf(1), first, empty, zeros()},
		"behind two":        {headOf(1), first, first, empty},
		"behind a record":   {headOf(1), sectorOf(last, text(3, 1)), first, empty},
		"behind one alike":  {headOf(1), empty, first, empty},
		"and one behind it": {headOf(1), first, empty, empty},
	} {
		wantNoLog(t, what, loaded(t, rows...), 0, 4, api.ErrWalForm)
	}
	opened(t, "behind a head", loaded(t, headOf(1), empty, zeros()), 0, 3, nil)
	opened(t, "behind a record", loaded(t, headOf(1), sectorOf(last, text(57, 1)), empty), 0, 3, text(57, 1), nil)
	opened(t, "behind its like", loaded(t, headOf(1), empty, empty), 0, 3, nil, nil)
	opened(t, "behind the end", loaded(t, headOf(1), first, zeros(), empty), 0, 4)
	opened(t, "one byte", loaded(t, headOf(1), first, sectorOf(last, []byte{0})), 0, 3, append(text(57, 1), 0))
	opened(t, "57 bytes", loaded(t, headOf(1), first, sectorOf(last, text(57, 2))), 0, 3, append(text(57, 1), text(57, 2)...))
}

// P11.3: what is left behind the last record is wiped, whatever it is; only what is not zeros is written; then it is synced.
func TestOpenWipes(t *testing.T) {
	rows := slices.Concat(standing(2, 3, text(3, 1)), [][]byte{full(1), zeros(), sectorOf(last, text(5, 2)), headOf(9), zeros(), with(zeros(), 63, 1)}, [][]byte{full(8)})
	d := loaded(t, rows...)
	l := opened(t, "dirt", d, 0, 8, text(3, 1))
	wantLog(t, "dirt", l, 3, 1, 1, 2, 6)
	wantDisk(t, "dirt", d, append(standing(8, 3, text(3, 1)), full(8))...)
	wantCounts(t, "dirt", d, 4, 1)
	opened(t, "clean", d, 0, 8, text(3, 1))
	wantCounts(t, "clean", d, 4, 1)
}

// P11.3: the wipes are made in the order of the sectors, ahead of the sync.
func TestOpenStepByStep(t *testing.T) {
	rows := slices.Concat(standing(2, 3, text(3, 1)), [][]byte{full(1), zeros(), full(2), full(3)})
	for fuse := range 5 {
		what := fmt.Sprintf("fuse %d", fuse)
		d := loaded(t, rows...)
		d.Fuse(fuse)
		if fuse == 4 {
			opened(t, what, d, 0, 6, text(3, 1))
			wantDisk(t, what, d, standing(6, 3, text(3, 1))...)
			continue
		}
		wantOpenLost(t, what, d, 0, 6)
		d.Fuse(-1)
		wantSafe(t, what, d, rows...)
		wantNum(t, what+": Pending", d.Pending(), fuse)
		for i, at := range []int{2, 4, 5} {
			p, _ := d.Read(at)
			if i < fuse {
				wantBytes(t, fmt.Sprintf("%s: sector %d", what, at), p, zeros())
			} else {
				wantBytes(t, fmt.Sprintf("%s: sector %d", what, at), p, rows[at])
			}
		}
	}
}

// P11.3: what waits is read, and made safe by Open; what waits elsewhere on the disk, too.
func TestOpenSyncsWhatWaits(t *testing.T) {
	d := fresh(t, 8)
	l := made(t, d, 1, 6, 1)
	add(t, l, text(3, 1), text(60, 2))
	wantLog(t, "it waits", l, 1, 2, 0, 4, 2)
	m := opened(t, "it waits", d, 1, 6, text(3, 1), text(60, 2))
	wantLog(t, "it is safe", m, 1, 2, 2, 4, 2)
	wantLog(t, "the first log tells what it told", l, 1, 2, 0, 4, 2)
	want := slices.Concat([][]byte{zeros()}, standing(6, 1, text(3, 1), text(60, 2)), [][]byte{zeros()})
	wantDisk(t, "it is safe", d, want...)
	wantCounts(t, "one sync more", d, 4, 4)

	d.Write(7, full(9))
	opened(t, "elsewhere", d, 1, 6, text(3, 1), text(60, 2))
	want[7] = full(9)
	wantDisk(t, "elsewhere", d, want...)
	wantCounts(t, "one sync more", d, 5, 5)

	d.Write(7, full(9))
	wantNoLog(t, "no log stands there: nothing is synced", d, 2, 4, api.ErrWalForm)
}

// P11.3: power for just what Open needs: none, where nothing is to be wiped and nothing waits.
func TestOpenAtTheEndOfThePower(t *testing.T) {
	d := loaded(t, standing(4, 1, text(3, 1))...)
	d.Write(3, full(2))
	d.Fuse(2)
	opened(t, "a write and a sync", d, 0, 4, text(3, 1))
	wantNoLog(t, "no power is left", d, 0, 4, api.ErrDiskPower)
}

// P11.3: a region within another's sectors is read by itself.
func TestOpenAPartOfALog(t *testing.T) {
	records := [][]byte{text(3, 1), headOf(5)[:57], text(130, 2), text(4, 3)}
	rows := standing(9, 1, records...)
	for i, count := range []int{1, 2, 2, 2, 3, 4, 4, 4} {
		opened(t, fmt.Sprintf("the first %d", 2+i), loaded(t, rows...), 0, 2+i, records[:count]...)
	}
	for from := 1; from < 8; from++ {
		wantNoLog(t, "its head is elsewhere", loaded(t, rows...), from, 9-from, api.ErrWalForm)
	}
}
