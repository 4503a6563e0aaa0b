package engine_test

import (
	"encoding/binary"
	"hash/crc32"
	"slices"
	"testing"

	"haulage/api"
	"haulage/disk"
	"haulage/shot"
	"haulage/wal"
)

// What stands on a disk, by the words of the chapters 11, 12 and 18: sectors are made and read here without those layers.

func zeros() []byte { return make([]byte, 64) }

// full is a sector of one byte.
func full(b byte) []byte { return slices.Repeat([]byte{b}, 64) }

func isZero(p []byte) bool { return slices.Max(p) == 0 }

// sumOf is the library's own CRC.
func sumOf(p []byte) uint32 { return crc32.Checksum(p, crc32.MakeTable(crc32.Castagnoli)) }

// sealed is a sector with its sum behind the first 59 bytes, and its end mark.
func sealed(p []byte) []byte {
	p = append(p, make([]byte, 59-len(p))...)
	return append(binary.BigEndian.AppendUint32(p, sumOf(p)), 165)
}

// logSector is a sector of a log: 1 is a head, 2 a piece that goes on, 3 a last piece.
func logSector(kind byte, p []byte) []byte {
	return sealed(append([]byte{kind, byte(len(p))}, p...))
}

func logHead(gen int) []byte {
	return logSector(1, binary.BigEndian.AppendUint64(nil, uint64(gen)))
}

// pieces are the sectors of a record.
func pieces(p []byte) [][]byte {
	var all [][]byte
	for ; len(p) > held; p = p[held:] {
		all = append(all, logSector(2, p[:held]))
	}
	return append(all, logSector(3, p))
}

// region are the sectors of a region in which a log stands.
func region(size, gen int, forms ...[]byte) [][]byte {
	all := [][]byte{logHead(gen)}
	for _, p := range forms {
		all = append(all, pieces(p)...)
	}
	return filled(all, size)
}

func shotHead(gen, length int, sum uint32) []byte {
	p := binary.BigEndian.AppendUint64([]byte{83, 72, 79, 84}, uint64(gen))
	p = binary.BigEndian.AppendUint32(p, uint32(length))
	return sealed(binary.BigEndian.AppendUint32(p, sum))
}

// shotBody are the sectors that data fills.
func shotBody(data []byte) [][]byte {
	var all [][]byte
	for piece := range slices.Chunk(data, 64) {
		all = append(all, append(slices.Clone(piece), make([]byte, 64-len(piece))...))
	}
	return all
}

// slot are the sectors of a slot in which a snapshot stands.
func slot(size, gen int, data []byte) [][]byte {
	return filled(append([][]byte{shotHead(gen, len(data), sumOf(data))}, shotBody(data)...), size)
}

// empty are sectors on which nothing was written.
func empty(n int) [][]byte { return slices.Repeat([][]byte{zeros()}, n) }

// filled are sectors with empty ones behind them, so many in all.
func filled(all [][]byte, size int) [][]byte { return append(all, empty(size-len(all))...) }

// imageOf is the image of the two regions and the two slots, one behind the other.
func imageOf(parts ...[][]byte) []byte {
	var all []byte
	for _, part := range parts {
		all = append(all, slices.Concat(part...)...)
	}
	return all
}

// engineImage is the image of an engine of this generation, whose other region and slot are as they were at first.
func engineImage(s api.Setup, gen int, data []byte, forms ...[]byte) []byte {
	log, shot := region(s.Layout.Log, gen, forms...), slot(s.Layout.Shot, gen, data)
	if gen%2 == 1 {
		return imageOf(log, empty(s.Layout.Log), shot, empty(s.Layout.Shot))
	}
	return imageOf(empty(s.Layout.Log), log, empty(s.Layout.Shot), shot)
}

// logIn is what stands in a region: a log's generation, its records' forms, and how many sectors they take; false, if none stands.
func logIn(rows [][]byte) (gen int, forms [][]byte, used int, ok bool) {
	if !isRight(rows[0]) || rows[0][0] != 1 || rows[0][1] != 8 {
		return 0, nil, 0, false
	}
	n := binary.BigEndian.Uint64(rows[0][2:])
	if n < 1 || n > maxTime {
		return 0, nil, 0, false
	}
	used = 1
	var form []byte
	for i, p := range rows[1:] {
		if p[63] != 165 || p[0] == 0 {
			break
		}
		last := p[0] == 3 && (p[1] > 0 || len(form) == 0)
		if !isRight(p) || !last && (p[0] != 2 || p[1] != held) {
			return 0, nil, 0, false
		}
		form = append(form, p[2:2+p[1]]...)
		if last {
			forms, used, form = append(forms, form), i+2, nil
		}
	}
	return int(n), forms, used, true
}

// isRight says whether a sector is a log's.
func isRight(p []byte) bool {
	return p[1] <= held && slices.Equal(p, logSector(p[0], p[2:2+p[1]])) && p[0] != 0
}

// shotIn is what stands in a slot: a snapshot's generation, and its data; 0, if none stands. The slot is that of the odd generations, or of the even ones.
func shotIn(rows [][]byte, odd int) (int, []byte) {
	length := binary.BigEndian.Uint32(rows[0][12:])
	gen := binary.BigEndian.Uint64(rows[0][4:])
	body := slices.Concat(rows[1:]...)
	if gen < 1 || gen > maxTime || int(gen%2) != odd || int(length) > len(body) {
		return 0, nil
	}
	data := body[:length]
	if !slices.Equal(rows[0], shotHead(int(gen), len(data), sumOf(data))) || !standsSo(rows[1:], data) {
		return 0, nil
	}
	return int(gen), data
}

// newestIn is the newest of two slots' snapshots; 0, if none stands.
func newestIn(rows [][]byte) (int, []byte) {
	gen, data := shotIn(rows[:len(rows)/2], 1)
	if later, other := shotIn(rows[len(rows)/2:], 0); later > gen {
		return later, other
	}
	return gen, data
}

// standsSo says whether a body begins with the sectors that data fills.
func standsSo(body [][]byte, data []byte) bool {
	for i, p := range shotBody(data) {
		if !slices.Equal(body[i], p) {
			return false
		}
	}
	return true
}

// TestSectors: what is made and read here is what the layers 11 and 12 make and read.
func TestSectors(t *testing.T) {
	for _, gen := range []int{1, 2, 300, maxTime - 1, maxTime} {
		forms := [][]byte{[]byte(text(3, 1)), nil, []byte(text(57, 2)), []byte(text(58, 3)), []byte(text(200, 4))}
		d := fresh(t, 24)
		l, err := wal.Make(d, 0, 24, gen)
		wantErr(t, "Make", err, api.OK)
		for _, p := range forms {
			wantErr(t, "Append", l.Append(p), api.OK)
		}
		wantErr(t, "Sync", l.Sync(), api.OK)
		rows := region(24, gen, forms...)
		wantBytes(t, "a region", d.Image(), imageOf(rows))
		n, back, used, ok := logIn(rows)
		wantBool(t, "a log stands", ok && slices.EqualFunc(forms, back, slices.Equal), true)
		wantNum(t, "its generation", n, gen)
		wantNum(t, "its sectors", used, l.Used())

		for _, size := range []int{0, 1, 64, 100, 192} {
			data := []byte(text(size, 5))
			rows := slices.Concat(empty(4), slot(4, gen, data))
			if gen%2 == 1 {
				rows = slices.Concat(slot(4, gen, data), empty(4))
			}
			s, found, err := shot.Open(loaded(t, imageOf(rows)), 0, 4)
			wantErr(t, "Open of slots", err, api.OK)
			wantBytes(t, "what stands there", found, data)
			wantNum(t, "its generation", s.Gen(), gen)
			n, back := newestIn(rows)
			wantBytes(t, "what is read there", back, data)
			wantNum(t, "its generation", n, gen)
		}
	}
}

// readAll are all sectors of a disk, as they are read.
func readAll(d *disk.Disk) ([][]byte, api.Errno) {
	var rows [][]byte
	for i := range d.Sectors() {
		p, err := d.Read(i)
		if err != api.OK {
			return nil, err
		}
		rows = append(rows, p)
	}
	return rows, api.OK
}
