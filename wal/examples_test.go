package wal_test

import (
	"bytes"
	"testing"

	"haulage/api"
	"haulage/wal"
)

// P11.1: the first row of "Examples".
func TestExamplesOfNeed(t *testing.T) {
	for _, c := range [][2]int{{0, 1}, {57, 1}, {58, 2}, {114, 2}, {115, 3}, {-1, 1}} {
		wantNum(t, "Need", wal.Need(c[0]), c[1])
	}
}

// P11.1 to P11.5: the other rows of "Examples", one behind the other on one disk.
func TestExamples(t *testing.T) {
	d := fresh(t, 6)
	l := made(t, d, 1, 4, 9)
	image := d.Image()
	wantBytes(t, "sector 1", image[64:76], []byte{1, 8, 0, 0, 0, 0, 0, 0, 0, 9, 0, 0})
	wantNum(t, "Used", l.Used(), 1)
	wantNum(t, "Room", l.Room(), 3)

	short, long := []byte{5, 6}, bytes.Repeat([]byte{7}, 58)
	add(t, l, short, long)
	wantErr(t, "Append(1)", l.Append([]byte{1}), api.ErrWalFull)
	wantNum(t, "Len", l.Len(), 2)
	wantNum(t, "Synced", l.Synced(), 0)
	sync(t, l)
	wantNum(t, "Synced behind Sync", l.Synced(), 2)

	image = d.Image()
	wantBytes(t, "sector 2", image[128:133], []byte{3, 2, 5, 6, 0})
	wantBytes(t, "sector 3", image[192:196], []byte{2, 57, 7, 7})
	wantBytes(t, "sector 4", image[256:260], []byte{3, 1, 7, 0})

	m := opened(t, "all of it", d, 1, 4, short, long)
	wantNum(t, "Gen", m.Gen(), 9)
	opened(t, "one sector less", d, 1, 3, short)
	wantBytes(t, "sector 3 is wiped", d.Image()[192:256], zeros())
	wantNoLog(t, "one sector ahead", d, 0, 4, api.ErrWalForm)

	wantErr(t, "Reset(9)", m.Reset(9), api.ErrArg)
	wantErr(t, "Reset(10)", m.Reset(10), api.OK)
	wantNum(t, "Len", m.Len(), 0)
	wantNum(t, "Room", m.Room(), 3)
}
