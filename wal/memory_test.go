package wal_test

import (
	"bytes"
	"fmt"
	"slices"
	"testing"

	"haulage/api"
	"haulage/wal"
)

// spoil writes one byte over a list, and over the room behind it.
func spoil(p []byte) {
	p = p[:cap(p)]
	for i := range p {
		p[i] = 0xEE
	}
}

// P11.10: a record that is appended is neither changed nor kept, the room behind it neither; one that is refused, too.
func TestRecordsHandedIn(t *testing.T) {
	for _, n := range []int{0, 1, 56, 57, 58, 114, 115, 200} {
		what := fmt.Sprintf("a record of %d", n)
		d := fresh(t, 8)
		l := made(t, d, 0, 8, 1)
		room := text(n+80, 1)
		add(t, l, room[:n])
		wantBytes(t, what, room, text(n+80, 1))
		spoil(room)
		opened(t, what+", while it waits", d, 0, 8, text(n+80, 1)[:n])

		room = text(1000, 2)
		wantErr(t, "too long", l.Append(room[:900]), api.ErrWalFull)
		d.Fuse(0)
		wantErr(t, "no power", l.Append(room[:1]), api.ErrDiskPower)
		wantErr(t, "dead", l.Append(room[:1]), api.ErrDiskPower)
		wantBytes(t, "what was refused", room, text(1000, 2))
	}
}

// P11.10: one list, changed between two Appends, makes two unlike records.
func TestOneListAppendedTwice(t *testing.T) {
	d := fresh(t, 8)
	l := made(t, d, 0, 8, 1)
	p := text(60, 1)
	add(t, l, p)
	copy(p, text(60, 2))
	add(t, l, p)
	spoil(p)
	sync(t, l)
	opened(t, "both", d, 0, 8, text(60, 1), text(60, 2))
}

// P11.10, P0.4: records that are answered share no memory with one another, with the disk, with the log or with another answer, the room behind them neither.
func TestRecordsAnswered(t *testing.T) {
	records := [][]byte{text(3, 1), nil, text(57, 2), text(58, 3), text(200, 4), nil, text(1, 5)}
	d := fresh(t, 20)
	l := made(t, d, 0, 20, 1)
	add(t, l, records...)
	sync(t, l)
	for spoilt := range records {
		m, got, err := wal.Open(d, 0, 20)
		wantErr(t, "Open", err, api.OK)
		_, other, _ := wal.Open(d, 0, 20)
		spoil(got[spoilt])
		got[spoilt] = append(got[spoilt], bytes.Repeat([]byte{0xEE}, 70)...)
		for i := range records {
			if i != spoilt {
				wantBytes(t, fmt.Sprintf("record %d behind %d being spoilt", i, spoilt), got[i], records[i])
			}
		}
		wantRecords(t, "the other answer", other, records...)
		wantDisk(t, "the disk", d, standing(20, 1, records...)...)
		wantLog(t, "the log", m, 1, 7, 7, 12, 8)
	}
}

// P11.10: what was answered stays what it was, whatever becomes of the log.
func TestAnswersStay(t *testing.T) {
	d := fresh(t, 8)
	l := made(t, d, 0, 8, 1)
	add(t, l, text(60, 1), text(3, 2))
	m, got, err := wal.Open(d, 0, 8)
	wantErr(t, "Open", err, api.OK)
	add(t, m, text(5, 3))
	wantErr(t, "Reset", m.Reset(2), api.OK)
	add(t, m, text(100, 4))
	sync(t, m)
	wantRecords(t, "what was answered", got, text(60, 1), text(3, 2))
	opened(t, "what stands", d, 0, 8, text(100, 4))
}

// P11.10, P0.4: Opens of one disk have nothing to do with one another but the disk.
func TestTwoLogs(t *testing.T) {
	d := fresh(t, 12)
	a, b := made(t, d, 0, 5, 1), made(t, d, 5, 7, 8)
	add(t, a, text(3, 1))
	add(t, b, text(58, 2), text(4, 3))
	sync(t, b)
	wantLog(t, "the one", a, 1, 1, 0, 2, 3)
	wantLog(t, "the other", b, 8, 2, 2, 4, 3)
	wantErr(t, "Reset", a.Reset(2), api.OK)
	wantLog(t, "the other", b, 8, 2, 2, 4, 3)
	wantDisk(t, "both", d, slices.Concat(standing(5, 2), standing(7, 8, text(58, 2), text(4, 3)))...)
}
