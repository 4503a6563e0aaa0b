package disk_test

import (
	"slices"
	"testing"

	"haulage/api"
	"haulage/disk"
)

// spoil writes over a list, and over the room behind it.
func spoil(p []byte) {
	p = p[:cap(p)]
	for i := range p {
		p[i] ^= 0xFF
	}
}

// P8.8: an image that is loaded is neither kept nor changed.
func TestImageHandedIn(t *testing.T) {
	image := join(marked(1), marked(2))
	d, err := disk.Load(image)
	wantErr(t, "Load", err, api.OK)
	spoil(image)
	wantSectors(t, "the image written over", d, marked(1), marked(2))

	image = join(marked(1), marked(2), marked(3))
	d, err = disk.Load(image[:128])
	wantErr(t, "Load", err, api.OK)
	write(t, d, 0, full(7))
	sync(t, d)
	write(t, d, 1, full(8))
	d.Crash(nil, 0, 9)
	wantBytes(t, "the image handed in", image, join(marked(1), marked(2), marked(3)))
}

// P8.8: bytes that are written are neither kept nor changed, while they wait and behind that.
func TestBytesHandedIn(t *testing.T) {
	d := fresh(t, 2)
	room := join(marked(1), marked(2))
	data := room[:64]
	write(t, d, 0, data)
	write(t, d, 1, data)
	wantBytes(t, "the bytes and the room behind them", room, join(marked(1), marked(2)))
	spoil(data)
	wantRead(t, "pending", d, 0, marked(1))
	d.Crash([]bool{true}, 1, 9)
	wantSectors(t, "Crash", d, marked(1), append(marked(1)[:9:9], full(0)[9:]...))

	data = marked(3)
	write(t, d, 0, data)
	spoil(data)
	sync(t, d)
	spoil(data)
	wantRead(t, "Sync", d, 0, marked(3))
}

// P8.8: one list, changed between two writes, makes two unlike writes.
func TestOneListWrittenTwice(t *testing.T) {
	d := fresh(t, 1)
	data := full(1)
	write(t, d, 0, data)
	copy(data, full(2))
	write(t, d, 0, data)
	copy(data, full(3))
	d.Crash([]bool{true}, 1, 10)
	wantSectors(t, "Crash", d, torn(2, 10, 1))
}

// P8.8, P0.3: bytes that are refused stay as they are, too.
func TestRefusedBytes(t *testing.T) {
	d := fresh(t, 1)
	room := join(marked(1), marked(2))
	d.Write(0, room[:63])
	d.Write(0, room[:65])
	d.Write(1, room[:64])
	d.Fuse(0)
	d.Write(0, room[:64])
	disk.Load(room[:63])
	disk.Load(room[:127])
	wantBytes(t, "the bytes", room, join(marked(1), marked(2)))
}

// P8.8: keep is neither changed nor kept, the room behind it neither; and what stands in that room counts for nothing.
func TestKeepHandedIn(t *testing.T) {
	d := fresh(t, 3)
	room := []bool{true, false, true, true}
	for i := range 3 {
		write(t, d, i, full(byte(1+i)))
	}
	d.Crash(room[:2], -1, 0)
	wantSectors(t, "Crash", d, full(1), full(0), full(0))
	if !slices.Equal(room, []bool{true, false, true, true}) {
		t.Fatalf("keep was changed to %v", room)
	}
	write(t, d, 1, full(9))
	room[0] = false
	d.Crash(nil, -1, 0)
	wantSectors(t, "Crash", d, full(1), full(0), full(0))
}

// P8.8, P0.4: answers are the caller's own: who writes over them changes no disk.
func TestAnswersAreNew(t *testing.T) {
	d := loaded(t, marked(1), marked(2))
	write(t, d, 1, marked(3))
	for range 2 {
		for sector := range 2 {
			p, _ := d.Read(sector)
			other, _ := d.Read(sector)
			spoil(p)
			wantBytes(t, "the other answer", other, marked(1+2*sector))
		}
		image, other := d.Image(), d.Image()
		spoil(image)
		wantBytes(t, "the other image", other, join(marked(1), marked(2)))
	}
	wantRead(t, "pending", d, 0, marked(1))
	wantRead(t, "pending", d, 1, marked(3))
	wantImage(t, "pending", d, marked(1), marked(2))
	d.Crash([]bool{true}, -1, 0)
	wantSectors(t, "Crash", d, marked(1), marked(3))
}

// P8.8: answers stay what they were, whatever becomes of the disk.
func TestAnswersStay(t *testing.T) {
	d := loaded(t, marked(1), marked(2))
	write(t, d, 1, marked(3))
	image := d.Image()
	safe, _ := d.Read(0)
	pending, _ := d.Read(1)
	write(t, d, 0, marked(4))
	write(t, d, 1, marked(5))
	sync(t, d)
	write(t, d, 0, marked(6))
	d.Crash(nil, 0, 20)
	wantBytes(t, "the image", image, join(marked(1), marked(2)))
	wantBytes(t, "what was safe", safe, marked(1))
	wantBytes(t, "what was pending", pending, marked(3))
}

// P8.8: two disks have nothing to do with one another, be they of one image or not.
func TestTwoDisks(t *testing.T) {
	image := join(marked(1), marked(2))
	a, _ := disk.Load(image)
	b, _ := disk.Load(image)
	write(t, a, 0, full(7))
	sync(t, a)
	write(t, a, 1, full(8))
	a.Fuse(0)
	wantSectors(t, "the other", b, marked(1), marked(2))
	wantCounts(t, "the other", b, 0, 0)
	write(t, b, 1, full(9))
	b.Crash([]bool{true}, -1, 0)
	wantNum(t, "Pending", a.Pending(), 1)
	wantOff(t, "the first", a)
	a.Fuse(-1)
	wantRead(t, "the first", a, 1, full(8))
	wantImage(t, "the first", a, full(7), marked(2))
}
