package table_test

import (
	"testing"

	"haulage/api"
	"haulage/table"
)

// exampleOps are the writes of the chapter's examples, one behind the other.
func exampleOps() []api.Op {
	return []api.Op{put("a", "1"), put("b", ""), put("a", "2"), swap("a", "3", 1), swap("a", "3", 3), swap("c", "9", 0), del("c"), del("c")}
}

// P13.3, P13.4: the rows of "Examples", one behind the other.
func TestExampleOps(t *testing.T) {
	m := table.New()
	wantDo(t, m, get("a"), no("", "", 0, 0))
	wantDo(t, m, put("a", "1"), yes("", "", 0, 1))
	wantDo(t, m, put("b", ""), yes("", "", 0, 2))
	wantDo(t, m, put("a", "2"), yes("a", "1", 1, 3))
	wantDo(t, m, swap("a", "3", 1), no("a", "2", 3, 4))
	wantDo(t, m, swap("a", "3", 3), yes("a", "2", 3, 5))
	wantDo(t, m, swap("c", "9", 0), yes("", "", 0, 6))
	wantDo(t, m, del("c"), yes("c", "9", 6, 7))
	wantDo(t, m, del("c"), no("", "", 0, 8))
	wantDo(t, m, seek(""), yes("a", "3", 5, 8))
	wantDo(t, m, seek("a\x00"), yes("b", "", 2, 8))
	wantDo(t, m, seek("c"), no("", "", 0, 8))
	wantBytes(t, "Bytes", m.Bytes(), []byte{8, 2, 1, 97, 1, 51, 5, 1, 98, 0, 2})
	wantNum(t, "Size", m.Size(), 11)
}

// P13.4: the row of After.
func TestExampleAfter(t *testing.T) {
	m := made(t, exampleOps()...)
	wantAfter(t, m, put("b", "7"), 12)
	wantAfter(t, m, get("b"), 11)
	wantAfter(t, m, del("a"), 6)
	wantTable(t, "behind After", m, 8, row("a", "3", 5), row("b", "", 2))
}

// P13.2: the row of Read.
func TestExampleRead(t *testing.T) {
	wantNotRead(t, "a Rev above", []byte{8, 1, 1, 97, 0, 9})
	wantNotRead(t, "a key twice", []byte{8, 2, 1, 97, 0, 1, 1, 97, 0, 2})
	wantNotRead(t, "a Rev twice", []byte{8, 2, 1, 97, 0, 1, 1, 98, 0, 1})
	wantNotRead(t, "a key of no bytes", []byte{8, 1, 0, 0, 1})
	wantNotRead(t, "a byte behind", []byte{0, 0, 0})
	m := read(t, []byte{8, 2, 1, 97, 1, 51, 5, 1, 98, 0, 2})
	wantTable(t, "what was told", m, 8, row("a", "3", 5), row("b", "", 2))
}

// P13.1, P13.3: the row of ops that are not right.
func TestExampleRefused(t *testing.T) {
	m := made(t, exampleOps()...)
	wantRefused(t, m, put("", "1"), api.ErrTabOp)
	wantRefused(t, m, api.Op{Kind: 6, Key: []byte("a")}, api.ErrTabOp)
	wantRefused(t, m, api.Op{Kind: api.OpGet, Key: []byte("a"), Value: []byte("1")}, api.ErrTabOp)
	wantRefused(t, m, get(text(65, 1)), api.ErrTabOp)
}
