package shot_test

import (
	"bytes"
	"fmt"
	"slices"
	"testing"

	"haulage/api"
	"haulage/shot"
)

// spoil writes one byte over a list, and over the room behind it.
func spoil(p []byte) {
	p = p[:cap(p)]
	for i := range p {
		p[i] = 0xEE
	}
}

// P12.4: data that is saved is neither changed nor kept, the room behind it neither; what is refused, too.
func TestDataHandedIn(t *testing.T) {
	for _, n := range []int{0, 1, 63, 64, 65, 127, 128, 192} {
		what := fmt.Sprintf("%d bytes", n)
		d := fresh(t, 8)
		s := opened(t, what, d, 0, 4, 0, nil)
		room := text(n+80, 1)
		save(t, s, room[:n])
		wantBytes(t, what, room, text(n+80, 1))
		spoil(room)
		opened(t, what, d, 0, 4, 1, text(n+80, 1)[:n])

		room = text(1000, 2)
		wantErr(t, "too much", s.Save(room[:193]), api.ErrShotRoom)
		d.Fuse(1)
		wantErr(t, "no power", s.Save(room[:100]), api.ErrDiskPower)
		wantErr(t, "out of use", s.Save(room[:100]), api.ErrDiskPower)
		wantBytes(t, "what was refused", room, text(1000, 2))
	}
}

// P12.4: data whose Save was cut off is not kept where it waits.
func TestDataThatWaits(t *testing.T) {
	for fuse := 1; fuse < 6; fuse++ {
		d := fresh(t, 8)
		s := opened(t, "a new disk", d, 0, 4, 0, nil)
		p := text(130, 1)
		d.Fuse(fuse)
		s.Save(p)
		spoil(p)
		d.Fuse(-1)
		body := bodyOf(text(130, 1))
		for i := range min(fuse, 3) {
			got, _ := d.Read(1 + i)
			wantBytes(t, fmt.Sprintf("fuse %d: sector %d", fuse, i), got, body[i])
		}
	}
}

// P12.4: one list, changed between two Saves, makes two unlike snapshots.
func TestOneListSavedTwice(t *testing.T) {
	d := fresh(t, 6)
	s := opened(t, "a new disk", d, 0, 3, 0, nil)
	p := text(70, 1)
	save(t, s, p)
	copy(p, text(70, 2))
	save(t, s, p)
	spoil(p)
	wantDisk(t, "both", d, slices.Concat(standing(3, 1, text(70, 1)), standing(3, 2, text(70, 2)))...)
}

// P12.4, P0.4: data that is answered shares no memory with the disk, with the object or with another answer, the room behind it neither.
func TestDataAnswered(t *testing.T) {
	for _, n := range []int{0, 1, 63, 64, 65, 100, 128, 192} {
		what := fmt.Sprintf("%d bytes", n)
		rows := slices.Concat(standing(4, 3, text(n, 1)), standing(4, 2, text(90, 2)))
		d := loaded(t, rows...)
		s, got, err := shot.Open(d, 0, 4)
		wantErr(t, what, err, api.OK)
		_, other, _ := shot.Open(d, 0, 4)
		spoil(got)
		_ = append(got, bytes.Repeat([]byte{0xEE}, 70)...)
		wantBytes(t, what+": the other answer", other, text(n, 1))
		wantDisk(t, what, d, rows...)
		wantShots(t, what, s, 3, 192)
		opened(t, what, d, 0, 4, 3, text(n, 1))
	}
}

// P12.4: what waits on the disk is not answered as it lies there.
func TestDataAnsweredOfWhatWaits(t *testing.T) {
	d := fresh(t, 4)
	for i, p := range standing(2, 1, text(64, 1)) {
		d.Write(i, p)
	}
	_, got, err := shot.Open(d, 0, 2)
	wantErr(t, "Open", err, api.OK)
	spoil(got)
	opened(t, "spoilt", d, 0, 2, 1, text(64, 1))
}

// P12.4: what was answered stays what it was, whatever becomes of the slots; and it can be saved again.
func TestAnswersStay(t *testing.T) {
	d := loaded(t, slices.Concat(standing(3, 1, text(100, 1)), empty(3))...)
	s, got, err := shot.Open(d, 0, 3)
	wantErr(t, "Open", err, api.OK)
	save(t, s, text(128, 2))
	save(t, s, text(128, 3))
	wantBytes(t, "what was answered", got, text(100, 1))
	save(t, s, got)
	wantBytes(t, "what was saved again", got, text(100, 1))
	opened(t, "saved again", d, 0, 3, 4, text(100, 1))
}
