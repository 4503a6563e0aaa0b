package table_test

import (
	"testing"

	"haulage/api"
)

// writesOf are writes of a key: such as would change its row, and such as would not.
func writesOf(key string) []api.Op {
	return []api.Op{put(key, "9"), put(key, ""), del(key), swap(key, "9", 0), swap(key, "9", 5), swap(key, "9", maxRev), swap(key, "9", maxRev-1)}
}

// P13.3, P13.4: at the revision MaxRev each write is refused, whatever it would change; each read is not.
func TestEnd(t *testing.T) {
	m := holding(t, maxRev, row("a", "1", 5), row("b", "2", maxRev))
	for _, key := range []string{"a", "b", "c"} {
		for _, op := range writesOf(key) {
			wantRefused(t, m, op, api.ErrTabEnd)
		}
	}
	wantDo(t, m, get("a"), yes("a", "1", 5, maxRev))
	wantDo(t, m, get("c"), no("", "", 0, maxRev))
	wantDo(t, m, seek(""), yes("a", "1", 5, maxRev))
	wantDo(t, m, seek("aa"), yes("b", "2", maxRev, maxRev))
	wantDo(t, m, seek("c"), no("", "", 0, maxRev))
	for _, op := range []api.Op{get("a"), get("c"), seek(""), seek("c")} {
		wantAfter(t, m, op, m.Size())
	}
	wantTable(t, "behind it all", m, maxRev, row("a", "1", 5), row("b", "2", maxRev))
}

// P13.3, P0.2: ErrTabOp comes ahead of ErrTabEnd.
func TestEndOfOpsThatAreNotRight(t *testing.T) {
	m := holding(t, maxRev, row("a", "1", 5))
	for _, op := range []api.Op{put("", "1"), put("a", text(257, 1)), del(text(65, 1)), swap("a", "1", -1), swap("a", "1", maxRev+1), {Kind: api.OpDelete, Key: []byte("a"), Value: []byte("1")}, {Kind: 0}, {Kind: 6, Key: []byte("a")}, {Kind: -3, Key: []byte("a")}} {
		wantRefused(t, m, op, api.ErrTabOp)
	}
}

// P13.3: the write that reaches MaxRev is done, and no further one.
func TestLastWrite(t *testing.T) {
	for _, op := range writesOf("a") {
		m := holding(t, maxRev-1, row("a", "1", 5))
		n, err := m.After(op)
		wantErr(t, "After of the last write", err, api.OK)
		a := did(t, m, op)
		wantNum(t, "At of the last write", a.At, maxRev)
		wantNum(t, "Rev behind the last write", m.Rev(), maxRev)
		wantNum(t, "Size behind the last write", m.Size(), n)
		for _, next := range writesOf("a") {
			wantRefused(t, m, next, api.ErrTabEnd)
		}
		read(t, m.Bytes())
	}
}
