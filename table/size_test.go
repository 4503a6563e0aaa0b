package table_test

import (
	"fmt"
	"testing"

	"haulage/api"
	"haulage/table"
)

// wantSizes holds Size and After against Bytes, for an op and its Do; After is asked on the table itself, Do is done on a copy.
func wantSizes(t *testing.T, what string, m *table.Table, op api.Op) {
	t.Helper()
	before := m.Bytes()
	wantNum(t, what+": Size", m.Size(), len(before))
	n, err := m.After(op)
	wantErr(t, what+": After", err, api.OK)
	wantBytes(t, what+": the table behind After", m.Bytes(), before)
	wantNum(t, what+": Size behind After", m.Size(), len(before))
	c := m.Copy()
	did(t, c, op)
	wantNum(t, what+": After and Bytes", n, len(c.Bytes()))
	wantNum(t, what+": After and Size", n, c.Size())
}

// someOps are ops of each kind, that change something and that don't, of a table with a row "a" of Rev 1.
func someOps() []api.Op {
	return []api.Op{put("a", ""), put("a", "123"), put("b", ""), put("b", "x"), del("a"), del("b"), swap("a", "1234567", 1), swap("a", "", 2), swap("b", "1", 0), swap("b", "1", 3), get("a"), get("b"), seek(""), seek("z")}
}

// P13.4, P13.7: at each revision whose Num grows by a byte, and beside it.
func TestSizeAsRevisionsGrow(t *testing.T) {
	for bits := 7; bits <= 35; bits += 7 {
		for rev := 1<<bits - 3; rev < 1<<bits+3; rev++ {
			m := holding(t, rev, row("a", "12", 1))
			n := bits / 7
			if rev >= 1<<bits {
				n++
			}
			wantNum(t, "Size", m.Size(), n+1+5+1)
			for _, op := range someOps() {
				wantSizes(t, fmt.Sprintf("revision %d, %v", rev, op), m, op)
			}
		}
	}
	for _, rev := range []int{1, 2, 3, 4, maxRev - 2, maxRev - 1} {
		for _, op := range someOps() {
			wantSizes(t, fmt.Sprintf("revision %d, %v", rev, op), holding(t, rev, row("a", "12", 1)), op)
		}
	}
}

// P13.4, P13.7: at each length of a key and of a value, with one that is there and one that is not, longer and shorter ones.
func TestSizeAsLengthsGrow(t *testing.T) {
	for _, n := range []int{0, 1, 2, 126, 127, 128, 129, 255, 256} {
		for _, old := range []int{0, 1, 127, 128, 256} {
			m := made(t, put("a", text(old, 1)), put("b", "x"))
			for _, op := range []api.Op{put("a", text(n, 2)), put("c", text(n, 2)), swap("a", text(n, 2), 1), swap("a", text(n, 2), 0), swap("c", text(n, 2), 0), del("a"), del("c")} {
				wantSizes(t, fmt.Sprintf("a value of %d in the place of %d", n, old), m, op)
			}
		}
	}
	for n := 1; n <= maxKey; n++ {
		m := made(t, put(text(n, 1), "1"))
		wantNum(t, "Size", m.Size(), 2+1+n+2+1)
		for _, op := range []api.Op{put(text(n, 1), ""), put(text(n, 2), "1"), del(text(n, 1)), del(text(n, 2))} {
			wantSizes(t, fmt.Sprintf("a key of %d", n), m, op)
		}
	}
}

// P13.4, P13.7: at each number of rows whose Num grows by a byte, and beside it.
func TestSizeAsRowsGrow(t *testing.T) {
	m := table.New()
	for i := range 16390 {
		key := fmt.Sprintf("%05d", i)
		if i < 3 || i > 125 && i < 131 || i > 16381 {
			for _, op := range []api.Op{put(key, "1"), put("00001", "2"), del("00000"), del(key), swap(key, "", 0), get("00000")} {
				wantSizes(t, fmt.Sprintf("%d rows, %v", i, op), m, op)
			}
		}
		did(t, m, put(key, ""))
		wantNum(t, "Len", m.Len(), i+1)
	}
	for i := range 16390 {
		did(t, m, del(fmt.Sprintf("%05d", i)))
	}
	wantTable(t, "behind it all", m, 2*16390)
}
