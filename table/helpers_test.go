package table_test

import (
	"bytes"
	"encoding/binary"
	"fmt"
	"math/rand"
	"slices"
	"strings"
	"testing"

	"haulage/api"
	"haulage/table"
)

const (
	maxRev   = 1 << 40
	maxKey   = 64
	maxValue = 256
)

func get(key string) api.Op { return api.Op{Kind: api.OpGet, Key: []byte(key)} }

func put(key, value string) api.Op {
	return api.Op{Kind: api.OpPut, Key: []byte(key), Value: []byte(value)}
}

func del(key string) api.Op { return api.Op{Kind: api.OpDelete, Key: []byte(key)} }

func swap(key, value string, rev int) api.Op {
	return api.Op{Kind: api.OpSwap, Key: []byte(key), Value: []byte(value), Rev: rev}
}

func seek(key string) api.Op { return api.Op{Kind: api.OpSeek, Key: []byte(key)} }

// told is an answer as a text, in which nil and empty lists are the same.
func told(a api.Answer) string {
	return fmt.Sprintf("done %v, key %q, value %q, rev %d, at %d", a.Done, a.Key, a.Value, a.Rev, a.At)
}

// yes and no are answers.
func yes(key, value string, rev, at int) api.Answer {
	return api.Answer{Done: true, Key: []byte(key), Value: []byte(value), Rev: rev, At: at}
}

func no(key, value string, rev, at int) api.Answer {
	return api.Answer{Key: []byte(key), Value: []byte(value), Rev: rev, At: at}
}

// row is an entry of a table.
func row(key, value string, rev int) api.Row {
	return api.Row{Key: []byte(key), Value: []byte(value), Rev: rev}
}

// toldRows are rows as a text.
func toldRows(rows []api.Row) string {
	var all strings.Builder
	for _, r := range rows {
		fmt.Fprintf(&all, "%q %q %d; ", r.Key, r.Value, r.Rev)
	}
	return all.String()
}

// formOf is the form of a table, laid down by the library's own numbers, whatever its rows are.
func formOf(rev uint64, rows ...api.Row) []byte {
	return formWithCount(rev, uint64(len(rows)), rows...)
}

// formWithCount is the form with another count than there are rows.
func formWithCount(rev, count uint64, rows ...api.Row) []byte {
	p := binary.AppendUvarint(nil, rev)
	p = binary.AppendUvarint(p, count)
	for _, r := range rows {
		p = binary.AppendUvarint(p, uint64(len(r.Key)))
		p = append(p, r.Key...)
		p = binary.AppendUvarint(p, uint64(len(r.Value)))
		p = append(p, r.Value...)
		p = binary.AppendUvarint(p, uint64(r.Rev))
	}
	return p
}

// read is a Read that goes well.
func read(t *testing.T, p []byte) *table.Table {
	t.Helper()
	m, err := table.Read(p)
	if m == nil || err != api.OK {
		t.Fatalf("Read(%v): a table: %v, error %d", p, m != nil, err)
	}
	return m
}

// holding is the table with these rows and this revision.
func holding(t *testing.T, rev int, rows ...api.Row) *table.Table {
	t.Helper()
	return read(t, formOf(uint64(rev), rows...))
}

// made is what ops make of a new table.
func made(t *testing.T, ops ...api.Op) *table.Table {
	t.Helper()
	m := table.New()
	for _, op := range ops {
		did(t, m, op)
	}
	return m
}

// did is a Do that goes well.
func did(t *testing.T, m *table.Table, op api.Op) api.Answer {
	t.Helper()
	a, err := m.Do(op)
	wantErr(t, fmt.Sprintf("Do(%v)", op), err, api.OK)
	return a
}

// wantDo asks for an answer.
func wantDo(t *testing.T, m *table.Table, op api.Op, wanted api.Answer) {
	t.Helper()
	if got := told(did(t, m, op)); got != told(wanted) {
		t.Fatalf("Do(%v): %s, want %s", op, got, told(wanted))
	}
}

// wantAfter asks for the Size that the form would have behind an op.
func wantAfter(t *testing.T, m *table.Table, op api.Op, wanted int) {
	t.Helper()
	n, err := m.After(op)
	wantErr(t, fmt.Sprintf("After(%v)", op), err, api.OK)
	wantNum(t, fmt.Sprintf("After(%v)", op), n, wanted)
}

// wantRefused asks that an op is refused by Do and by After, and that nothing changes.
func wantRefused(t *testing.T, m *table.Table, op api.Op, wanted api.Errno) {
	t.Helper()
	what := fmt.Sprintf("%v", op)
	before := m.Bytes()
	a, err := m.Do(op)
	wantErr(t, "Do of "+what, err, wanted)
	if told(a) != told(api.Answer{}) {
		t.Fatalf("Do of %s: %s beside an error", what, told(a))
	}
	n, err := m.After(op)
	wantErr(t, "After of "+what, err, wanted)
	wantNum(t, "After of "+what+" beside an error", n, 0)
	wantBytes(t, what+": the table behind it", m.Bytes(), before)
}

// wantTable asks for all that a table tells without an op.
func wantTable(t *testing.T, what string, m *table.Table, rev int, rows ...api.Row) {
	t.Helper()
	form := formOf(uint64(rev), rows...)
	wantNum(t, what+": Rev", m.Rev(), rev)
	wantNum(t, what+": Len", m.Len(), len(rows))
	if got := toldRows(m.Rows()); got != toldRows(rows) {
		t.Fatalf("%s: Rows: %s, want %s", what, got, toldRows(rows))
	}
	wantBytes(t, what+": Bytes", m.Bytes(), form)
	wantNum(t, what+": Size", m.Size(), len(form))
}

// wantNotRead asks that Read refuses.
func wantNotRead(t *testing.T, what string, p []byte) {
	t.Helper()
	m, err := table.Read(p)
	if m != nil || err != api.ErrTabForm {
		t.Fatalf("%s: Read(%v): a table: %v, error %d", what, p, m != nil, err)
	}
}

func wantErr(t *testing.T, what string, got, wanted api.Errno) {
	t.Helper()
	if got != wanted {
		t.Fatalf("%s: error %d, want %d", what, got, wanted)
	}
}

func wantNum(t *testing.T, what string, got, wanted int) {
	t.Helper()
	if got != wanted {
		t.Fatalf("%s: %d, want %d", what, got, wanted)
	}
}

func wantBool(t *testing.T, what string, got, wanted bool) {
	t.Helper()
	if got != wanted {
		t.Fatalf("%s: %v, want %v", what, got, wanted)
	}
}

// wantBytes compares bytes; nil and empty are the same.
func wantBytes(t *testing.T, what string, got, wanted []byte) {
	t.Helper()
	if !bytes.Equal(got, wanted) {
		t.Fatalf("%s: %v, want %v", what, got, wanted)
	}
}

// text is a text of n bytes that are all unlike their neighbours; no two texts of unlike marks begin alike.
func text(n, mark int) string {
	p := make([]byte, n)
	for i := range p {
		p[i] = byte(1 + (mark*41+i*7)%255)
	}
	return string(p)
}

// oddKeys are keys that begin one another, with bytes 0 and 255, short and long, in no order.
func oddKeys() []string {
	return []string{
		"b", "a", "aa", "ab", "a\x00", "a\x00\x00", "a\xff", "\x00", "\x00\x00", "\x00\xff", "\xff", "\xff\x00", "\xff\xff",
		"\x7f", "\x80", "\x81a", "z", "B", text(maxKey, 1), text(maxKey-1, 1),
		strings.Repeat("\x00", maxKey), strings.Repeat("\xff", maxKey), strings.Repeat("\xff", maxKey-1), strings.Repeat("a", maxKey), strings.Repeat("a", maxKey-1) + "b",
	}
}

// byBytes sorts keys byte by byte, the lesser first, and what begins another ahead of it: as the chapter's words have it, not as the language orders texts.
func byBytes(keys []string) []string {
	sorted := slices.Clone(keys)
	slices.SortFunc(sorted, func(a, b string) int {
		if ahead(a, b) {
			return -1
		}
		return 1
	})
	return sorted
}

// ahead says whether key a stands ahead of b.
func ahead(a, b string) bool {
	for i := 0; i < len(a) && i < len(b); i++ {
		if a[i] != b[i] {
			return a[i] < b[i]
		}
	}
	return len(a) < len(b)
}

// someOp is an op by dice, right most of the time, of one of these keys.
func someOp(dice *rand.Rand, keys []string, rev int) api.Op {
	key, value := keys[dice.Intn(len(keys))], text(dice.Intn(5), dice.Intn(9))
	switch dice.Intn(9) {
	case 0, 1, 2:
		return put(key, value)
	case 3:
		return del(key)
	case 4:
		return swap(key, value, 0)
	case 5:
		return swap(key, value, dice.Intn(rev+2))
	case 6:
		return get(key)
	case 7:
		return seek(key + []string{"", "\x00", "\xff", "m"}[dice.Intn(4)])
	}
	return api.Op{Kind: dice.Intn(8) - 1, Key: []byte(key)[:dice.Intn(len(key)+1)], Value: []byte(value), Rev: dice.Intn(3) - 1}
}
