package wal_test

import (
	"bytes"
	"encoding/binary"
	"fmt"
	"math/rand"
	"slices"
	"testing"

	"haulage/api"
	"haulage/disk"
	"haulage/wal"
)

// twin is a second telling of the chapter, on a disk of its own: it keeps its records, reads and writes sector by sector, and is asked about forms by making them.
type twin struct {
	d       *disk.Disk
	from, n int
	gen     int
	records [][]byte
	synced  int
	dead    bool
}

func isWhole(p []byte) bool { return p[0] > 0 && p[63] == 165 }

func isRight(p []byte) bool {
	if !isWhole(p) || p[1] > 57 || !bytes.Equal(p, sumUp(p)) {
		return false
	}
	return len(bytes.Trim(p[2+int(p[1]):59], "\x00")) == 0
}

func (w *twin) used() int {
	used := 1
	for _, r := range w.records {
		used += len(piecesOf(r))
	}
	return used
}

func (w *twin) room() int { return w.n - w.used() }

// meet is the error of the disk that the log dies of.
func (w *twin) meet(err api.Errno) api.Errno {
	w.dead = w.dead || err != api.OK
	return err
}

// wiped writes zeros where there are none.
func (w *twin) wiped(first, end int) api.Errno {
	for i := first; i < end; i++ {
		p, err := w.d.Read(w.from + i)
		if err == api.OK && !bytes.Equal(p, zeros()) {
			err = w.d.Write(w.from+i, zeros())
		}
		if err != api.OK {
			return err
		}
	}
	return api.OK
}

func (w *twin) reset(gen int) api.Errno {
	if w.dead {
		return api.ErrDiskPower
	}
	if gen <= w.gen || gen > 1<<40 {
		return api.ErrArg
	}
	for _, work := range []func() api.Errno{
		func() api.Errno { return w.wiped(0, 1) },
		w.d.Sync,
		func() api.Errno { return w.wiped(1, w.n) },
		w.d.Sync,
		func() api.Errno { return w.d.Write(w.from, headOf(uint64(gen))) },
		w.d.Sync,
	} {
		if err := w.meet(work()); err != api.OK {
			return err
		}
	}
	w.gen, w.records, w.synced = gen, nil, 0
	return api.OK
}

func (w *twin) append(record []byte) api.Errno {
	pieces := piecesOf(record)
	if w.dead {
		return api.ErrDiskPower
	}
	if len(pieces) > w.room() {
		return api.ErrWalFull
	}
	at := w.from + w.used()
	for i, p := range pieces {
		if err := w.meet(w.d.Write(at+i, p)); err != api.OK {
			return err
		}
	}
	w.records = append(w.records, slices.Clone(record))
	return api.OK
}

func (w *twin) sync() api.Errno {
	if w.dead {
		return api.ErrDiskPower
	}
	if err := w.meet(w.d.Sync()); err != api.OK {
		return err
	}
	w.synced = len(w.records)
	return api.OK
}

// wholeOnes are the sectors behind the head up to the first that is not whole, and ErrWalForm, if the chapter's words about them or the head do not hold.
func wholeOnes(all [][]byte) ([][]byte, api.Errno) {
	first := all[0]
	gen := binary.BigEndian.Uint64(first[2:])
	if !isRight(first) || first[0] != 1 || first[1] != 8 || gen < 1 || gen > 1<<40 {
		return nil, api.ErrWalForm
	}
	end := slices.IndexFunc(all[1:], func(p []byte) bool { return !isWhole(p) })
	if end < 0 {
		end = len(all) - 1
	}
	ones := all[1 : 1+end]
	for i, p := range ones {
		may := p[0] == 3 || p[0] == 2 && p[1] == 57
		if i > 0 && p[0] == 3 && p[1] == 0 && ones[i-1][0] == 2 {
			may = false
		}
		if !isRight(p) || !may {
			return nil, api.ErrWalForm
		}
	}
	return ones, api.OK
}

// open is what Open does and answers.
func (w *twin) open() api.Errno {
	var all [][]byte
	for i := range w.n {
		p, err := w.d.Read(w.from + i)
		if err != api.OK {
			return err
		}
		all = append(all, p)
	}
	ones, err := wholeOnes(all)
	if err != api.OK {
		return err
	}
	w.gen, w.records = int(binary.BigEndian.Uint64(all[0][2:])), nil
	for begin := 0; ; {
		length := slices.IndexFunc(ones[begin:], func(p []byte) bool { return p[0] == 3 })
		if length < 0 {
			break
		}
		var record []byte
		for _, p := range ones[begin : begin+length+1] {
			record = append(record, p[2:2+p[1]]...)
		}
		w.records = append(w.records, record)
		begin += length + 1
	}
	w.synced = len(w.records)
	if err := w.wiped(w.used(), w.n); err != api.OK {
		return err
	}
	if w.d.Pending() > 0 {
		return w.d.Sync()
	}
	return api.OK
}

// pair is a log and its second telling; no log, if there is none.
type pair struct {
	d *disk.Disk
	l *wal.Log
	w *twin
}

// wantAlike compares the disks, and all that is told.
func (p *pair) wantAlike(t *testing.T, what string) {
	t.Helper()
	wantBytes(t, what+": Image", p.d.Image(), p.w.d.Image())
	wantNum(t, what+": Pending", p.d.Pending(), p.w.d.Pending())
	writes, syncs := p.w.d.Counts()
	wantCounts(t, what, p.d, writes, syncs)
	for i := range p.d.Sectors() {
		got, err := p.d.Read(i)
		want, wanted := p.w.d.Read(i)
		wantErr(t, what+": Read", err, wanted)
		wantBytes(t, fmt.Sprintf("%s: Read(%d)", what, i), got, want)
	}
	if p.l != nil {
		wantLog(t, what, p.l, p.w.gen, len(p.w.records), p.w.synced, p.w.used(), p.w.room())
	}
}

// open has both open, and compares what is answered.
func (p *pair) open(t *testing.T) {
	t.Helper()
	again := &twin{d: p.w.d, from: p.w.from, n: p.w.n}
	l, records, err := wal.Open(p.d, p.w.from, p.w.n)
	wantErr(t, "Open", err, again.open())
	p.l, p.w = l, again
	if err != api.OK {
		if l != nil || len(records) != 0 {
			t.Fatalf("Open: a log: %v, %d records beside an error", l != nil, len(records))
		}
		return
	}
	wantRecords(t, "Open", records, again.records...)
}

// someSector is one that may stand in a log, or nearly.
func someSector(r *rand.Rand) []byte {
	kind, n := byte(1+r.Intn(4)), []int{0, 1, 8, 20, 56, 57}[r.Intn(6)]
	if r.Intn(2) == 0 {
		kind, n = part, 57
	}
	p := sectorOf(kind, text(n, r.Intn(1000)))
	switch r.Intn(8) {
	case 0:
		p[[]int{0, 1, 2, 58, 59, 62, 63}[r.Intn(7)]] ^= byte(1 + r.Intn(255))
	case 1:
		p[r.Intn(64)] = byte(r.Intn(256))
		p = sumUp(p)
	case 2:
		p[[]int{0, 63}[r.Intn(2)]] = 0
	case 3:
		p = zeros()
	}
	return p
}

// dirty lays any sectors onto both disks, at times a head too.
func (p *pair) dirty(r *rand.Rand) {
	for range 1 + r.Intn(3) {
		at, sector := p.w.from+1+r.Intn(p.w.n-1), someSector(r)
		if r.Intn(6) == 0 {
			at, sector = p.w.from, headOf(uint64(r.Intn(4))<<(r.Intn(3)*20))
		}
		p.d.Write(at, sector)
		p.w.d.Write(at, sector)
	}
}

// crash lets the power of both go and come again.
func (p *pair) crash(r *rand.Rand) {
	pending := p.d.Pending()
	keep, torn, cut := someKeep(r, pending), r.Intn(pending+2)-1, r.Intn(68)-2
	p.d.Crash(keep, torn, cut)
	p.w.d.Crash(keep, torn, cut)
}

// make has both make a log.
func (p *pair) make(t *testing.T, gen int) {
	t.Helper()
	p.w = &twin{d: p.w.d, from: p.w.from, n: p.w.n}
	l, err := wal.Make(p.d, p.w.from, p.w.n, gen)
	wantErr(t, "Make", err, p.w.reset(gen))
	if p.l = l; (l == nil) == (err == api.OK) {
		t.Fatalf("Make: a log: %v, error %d", l != nil, err)
	}
}

// step has one call of any kind at both.
func (p *pair) step(t *testing.T, r *rand.Rand, mark int) string {
	t.Helper()
	k := r.Intn(20)
	switch {
	case k == 0:
		p.crash(r)
		return "Crash"
	case k < 3:
		fuse := r.Intn(12) - 1
		p.d.Fuse(fuse)
		p.w.d.Fuse(fuse)
		return "Fuse"
	case k == 3 || p.l == nil && k > 12:
		p.make(t, r.Intn(6))
		return "Make"
	case k == 4:
		p.dirty(r)
		p.open(t)
		return "dirt and Open"
	case k == 5 || p.l == nil:
		p.open(t)
		return "Open"
	case k < 10:
		wantErr(t, "Sync", p.l.Sync(), p.w.sync())
		return "Sync"
	case k == 10:
		gen := p.w.gen + r.Intn(4) - 1
		wantErr(t, "Reset", p.l.Reset(gen), p.w.reset(gen))
		return "Reset"
	}
	record := text([]int{0, 1, 57, 58, 114, 115, r.Intn(300)}[r.Intn(7)], mark)
	wantErr(t, "Append", p.l.Append(record), p.w.append(record))
	return "Append"
}

// P11.1 to P11.7: rows of calls of any kind in lockstep with the second telling, write by write.
func TestTold(t *testing.T) {
	r := rand.New(rand.NewSource(111))
	for range 400 {
		from, n := r.Intn(3), 2+r.Intn(12)
		sectors := from + n + r.Intn(3)
		p := &pair{d: fresh(t, sectors), w: &twin{d: fresh(t, sectors), from: from, n: n}}
		p.make(t, 1+r.Intn(3))
		for mark := range 120 {
			p.wantAlike(t, p.step(t, r, mark))
		}
	}
}

// P11.3: Open over any sectors, in lockstep with the second telling.
func TestToldOfAnySectors(t *testing.T) {
	r := rand.New(rand.NewSource(113))
	stood := 0
	for range 20000 {
		n := 2 + r.Intn(8)
		rows := [][]byte{headOf(uint64(1 + r.Intn(1000)))}
		for range n - 1 {
			rows = append(rows, someSector(r))
		}
		p := &pair{d: loaded(t, rows...), w: &twin{d: loaded(t, rows...), n: n}}
		p.open(t)
		p.wantAlike(t, "Open")
		if p.l != nil && p.l.Len() > 0 {
			stood++
		}
	}
	if stood < 1000 {
		t.Fatalf("only %d logs with records stood", stood)
	}
}
