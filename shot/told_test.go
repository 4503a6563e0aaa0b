package shot_test

import (
	"bytes"
	"encoding/binary"
	"fmt"
	"math/rand"
	"slices"
	"testing"

	"haulage/api"
	"haulage/disk"
	"haulage/shot"
)

// twin is a second telling of the chapter, on a disk of its own, over whole slots of bytes.
type twin struct {
	d          *disk.Disk
	from, size int
	now        found
	dead       bool
}

// standsIn is what stands in a slot, whose bytes are given; a generation of 0, if nothing does.
func standsIn(slot []byte, odd bool) found {
	head, body := slot[:64], slot[64:]
	gen, length, sum := binary.BigEndian.Uint64(head[4:]), binary.BigEndian.Uint32(head[12:]), binary.BigEndian.Uint32(head[16:])
	if string(head[:4]) != "SHOT" || head[63] != 165 || binary.BigEndian.Uint32(head[59:]) != sumOf(head[:59]) {
		return found{}
	}
	if len(bytes.TrimLeft(head[20:59], "\x00")) > 0 || gen == 0 || gen > 1<<40 || (gen%2 == 1) != odd || int(length) > len(body) {
		return found{}
	}
	data := body[:length]
	rest := body[length : (length+63)/64*64]
	if sumOf(data) != sum || len(bytes.TrimLeft(rest, "\x00")) > 0 {
		return found{}
	}
	return found{int(gen), data}
}

// slot are the bytes of one of the two.
func (w *twin) slot(i int) ([]byte, api.Errno) {
	var all []byte
	for at := range w.size {
		p, err := w.d.Read(w.from + i*w.size + at)
		if err != api.OK {
			return nil, err
		}
		all = append(all, p...)
	}
	return all, api.OK
}

func (w *twin) open() api.Errno {
	first, err := w.slot(0)
	if err != api.OK {
		return err
	}
	second, err := w.slot(1)
	if err != api.OK {
		return err
	}
	w.now = standsIn(first, true)
	if other := standsIn(second, false); other.gen > w.now.gen {
		w.now = other
	}
	return api.OK
}

// laying are the acts of a Save, one by one.
func (w *twin) laying(at, gen int, data []byte) []func() api.Errno {
	write := func(i int, p []byte) func() api.Errno { return func() api.Errno { return w.d.Write(at+i, p) } }
	var acts []func() api.Errno
	if p, err := w.d.Read(at); err != api.OK || !bytes.Equal(p, zeros()) {
		acts = append(acts, write(0, zeros()), w.d.Sync)
	}
	for i, p := range bodyOf(data) {
		acts = append(acts, write(1+i, p))
	}
	return append(acts, w.d.Sync, write(0, headFor(uint64(gen), data)), w.d.Sync)
}

func (w *twin) save(data []byte) api.Errno {
	next := w.now.gen + 1
	switch {
	case w.dead:
		return api.ErrDiskPower
	case len(data) > 64*(w.size-1):
		return api.ErrShotRoom
	case next > 1<<40:
		return api.ErrShotEnd
	}
	at := w.from
	if next%2 == 0 {
		at += w.size
	}
	for _, act := range w.laying(at, next, data) {
		if err := act(); err != api.OK {
			w.dead = true
			return err
		}
	}
	w.now = found{next, data}
	return api.OK
}

// pair is an object and its second telling; no object, if there is none.
type pair struct {
	d *disk.Disk
	s *shot.Shots
	w *twin
}

// both has something done at both disks.
func (p *pair) both(do func(d *disk.Disk)) {
	do(p.d)
	do(p.w.d)
}

// wantAlike compares the disks, and all that is told.
func (p *pair) wantAlike(t *testing.T, what string) {
	t.Helper()
	wantBytes(t, what+": Image", p.d.Image(), p.w.d.Image())
	wantNum(t, what+": Pending", p.d.Pending(), p.w.d.Pending())
	writes, syncs := p.w.d.Counts()
	wantCounts(t, what, p.d, writes, syncs)
	for i := range p.d.Sectors() {
		got, err := p.d.Read(i)
		want, wanted := p.w.d.Read(i)
		wantErr(t, what+": Read", err, wanted)
		wantBytes(t, fmt.Sprintf("%s: Read(%d)", what, i), got, want)
	}
	if p.s != nil {
		wantShots(t, what, p.s, p.w.now.gen, 64*(p.w.size-1))
	}
}

// open has both open, and compares what is answered.
func (p *pair) open(t *testing.T) {
	t.Helper()
	anew := &twin{d: p.w.d, from: p.w.from, size: p.w.size}
	s, data, err := shot.Open(p.d, p.w.from, p.w.size)
	wantErr(t, "Open", err, anew.open())
	if (s == nil) == (err == api.OK) {
		t.Fatalf("Open: an object: %v, error %d", s != nil, err)
	}
	p.s, p.w = s, anew
	wantBytes(t, "Open", data, anew.now.data)
}

// someSlot are the sectors of a slot in which a snapshot stands, or nearly.
func someSlot(r *rand.Rand, size int) [][]byte {
	gen := uint64(r.Intn(8))
	if r.Intn(8) == 0 {
		gen = 1<<40 - 2 + uint64(r.Intn(5))
	}
	data := text(r.Intn(64*(size-1)+1), r.Intn(1000))
	if r.Intn(3) == 0 {
		data = data[:len(data)/64*64]
	}
	slot := standing(size, gen, data)
	switch r.Intn(8) {
	case 0:
		at := []int{0, 3, 11, 15, 19, 20, 58, 59, 62, 63}[r.Intn(10)]
		slot[0][at] ^= byte(1 + r.Intn(255))
	case 1:
		slot[0][r.Intn(59)] ^= byte(1 << r.Intn(8))
		slot[0] = sumUp(slot[0])
	case 2:
		slot[1+r.Intn(size-1)][r.Intn(64)] ^= byte(1 << r.Intn(8))
	case 3:
		slot[0] = headSaying(gen, uint32(len(data)+r.Intn(130)), sumOf(data))
	case 4:
		body := slices.Concat(slot[1:]...)
		n := r.Intn(len(body) + 1)
		slot[0] = headSaying(gen, uint32(n), sumOf(body[:n]))
	}
	return slot
}

// dirty lays a slot onto both disks.
func (p *pair) dirty(r *rand.Rand) {
	at := p.w.from + r.Intn(2)*p.w.size
	for i, sector := range someSlot(r, p.w.size) {
		p.both(func(d *disk.Disk) { d.Write(at+i, sector) })
	}
}

// crash lets the power of both go and come again.
func (p *pair) crash(r *rand.Rand) {
	seed := r.Int63()
	p.both(func(d *disk.Disk) { someCrash(rand.New(rand.NewSource(seed)), d) })
}

// step has one call of any kind at both.
func (p *pair) step(t *testing.T, r *rand.Rand, mark int) string {
	t.Helper()
	k := r.Intn(16)
	switch {
	case k == 0:
		p.crash(r)
		return "Crash"
	case k < 3:
		fuse := r.Intn(16) - 1
		p.both(func(d *disk.Disk) { d.Fuse(fuse) })
		return "Fuse"
	case k == 3:
		p.dirty(r)
		p.open(t)
		return "dirt and Open"
	case k < 6 || p.s == nil:
		p.open(t)
		return "Open"
	}
	most := 64 * (p.w.size - 1)
	data := text([]int{0, 1, 63, 64, 65, most, most + 1, r.Intn(most + 2)}[r.Intn(8)], mark)
	wantErr(t, "Save", p.s.Save(data), p.w.save(data))
	return "Save"
}

// P12.1 to P12.3, P12.8: rows of calls of any kind in lockstep with the second telling, write by write.
func TestTold(t *testing.T) {
	r := rand.New(rand.NewSource(121))
	saved := 0
	for range 600 {
		from, size := r.Intn(3), 2+r.Intn(6)
		sectors := from + 2*size + r.Intn(3)
		p := &pair{d: fresh(t, sectors), w: &twin{d: fresh(t, sectors), from: from, size: size}}
		p.open(t)
		for mark := range 100 {
			gen := p.w.now.gen
			what := p.step(t, r, mark)
			p.wantAlike(t, what)
			if what == "Save" && p.w.now.gen > gen {
				saved++
			}
		}
	}
	if saved < 5000 {
		t.Fatalf("only %d Saves went well", saved)
	}
}

// P12.1: Open over any slots, in lockstep with the second telling.
func TestToldOfAnySlots(t *testing.T) {
	r := rand.New(rand.NewSource(122))
	stood := 0
	for range 20000 {
		size := 2 + r.Intn(4)
		rows := slices.Concat(someSlot(r, size), someSlot(r, size))
		p := &pair{d: loaded(t, rows...), w: &twin{d: loaded(t, rows...), size: size}}
		p.open(t)
		p.wantAlike(t, "Open")
		if p.s.Gen() > 0 {
			stood++
		}
	}
	if stood < 5000 || stood > 19000 {
		t.Fatalf("%d of 20000 had a snapshot", stood)
	}
}
