package table_test

import (
	"bytes"
	"encoding/binary"
	"fmt"
	"math"
	"slices"
	"strings"
	"testing"

	"haulage/api"
	"haulage/table"
)

// loose takes up a table from bytes without asking much: numbers in any form, any keys. What it makes of bytes that are no form at all is of no use.
func loose(p []byte) (rev uint64, rows []api.Row) {
	num := func() uint64 {
		n, k := binary.Uvarint(p)
		if k <= 0 { // there is no number: what follows is of no use
			k = len(p)
		}
		p = p[k:]
		return n
	}
	some := func() []byte {
		n := min(num(), uint64(len(p)))
		q := p[:n]
		p = p[n:]
		return q
	}
	rev = num()
	for count := num(); count > 0 && len(p) > 0; count-- {
		key, value := some(), some()
		rows = append(rows, api.Row{Key: key, Value: value, Rev: int(num())})
	}
	return rev, rows
}

// isSound says it by the chapter's words; the keys in order, too.
func isSound(rev uint64, rows []api.Row) bool {
	if rev > 1<<40 {
		return false
	}
	for i, r := range rows {
		if len(r.Key) < 1 || len(r.Key) > 64 || len(r.Value) > 256 || r.Rev < 1 || uint64(r.Rev) > rev {
			return false
		}
		for _, other := range rows[:i] {
			if other.Rev == r.Rev || !ahead(string(other.Key), string(r.Key)) {
				return false
			}
		}
	}
	return true
}

// isForm says whether p is the form of a sound table: the one that p tells of, if it is one, and if p is its form.
func isForm(p []byte) bool {
	rev, rows := loose(p)
	return bytes.Equal(formOf(rev, rows...), p) && isSound(rev, rows)
}

// wantReadByWords holds Read against the words, and what it reads against what was read.
func wantReadByWords(t *testing.T, p []byte) bool {
	t.Helper()
	if !isForm(p) {
		wantNotRead(t, "no form of a sound table", p)
		return false
	}
	rev, rows := loose(p)
	wantTable(t, "what was read", read(t, p), int(rev), rows...)
	return true
}

// manyRows are rows with keys and values of many lengths, in order, and a revision.
func manyRows() (int, []api.Row) {
	keys := byBytes(oddKeys())
	var rows []api.Row
	for i, key := range keys {
		rows = append(rows, row(key, text(i*11%257, i), 1+(i*17)%301))
	}
	return 301, rows
}

// P13.2, P13.7: the forms of sound tables, with no row and with many.
func TestReadOfSound(t *testing.T) {
	for _, rev := range []int{0, 1, 127, 128, 16383, 16384, 1 << 21, 1 << 28, 1 << 35, maxRev - 1, maxRev} {
		wantTable(t, "no row", holding(t, rev), rev)
		if rev > 0 {
			wantTable(t, "one row", holding(t, rev, row("a", "1", rev)), rev, row("a", "1", rev))
			wantTable(t, "an old row", holding(t, rev, row("a", "1", 1)), rev, row("a", "1", 1))
		}
	}
	rev, rows := manyRows()
	wantTable(t, "many rows", holding(t, rev, rows...), rev, rows...)
	for _, n := range []int{126, 127, 128, 129, 20000} {
		rows = nil
		for i := range n {
			rows = append(rows, row(fmt.Sprintf("%06d", i), "", n-i))
		}
		wantTable(t, "so many rows", holding(t, n, rows...), n, rows...)
	}
}

// P13.2: all bytes of few letters, up to a length at which tables of two rows are among them.
func TestReadOfAllShortBytes(t *testing.T) {
	sounds := 0
	for most, letters := range map[int]string{10: "\x00\x01\x02", 8: "\x00\x01\x02\x80", 6: "\x00\x01\x03a\x80\xff"} {
		var grow func(p []byte)
		grow = func(p []byte) {
			if wantReadByWords(t, p) {
				sounds++
			}
			if len(p) == most {
				return
			}
			for _, b := range []byte(letters) {
				grow(append(slices.Clone(p), b))
			}
		}
		grow(nil)
	}
	if sounds < 50 {
		t.Fatalf("only %d sound tables were among them", sounds)
	}
}

// P13.2: each beginning of a form, a form with a byte behind it, and each byte of one turned into each other.
func TestReadOfSpoiltForms(t *testing.T) {
	_, many := manyRows()
	for what, form := range map[string][]byte{
		"no row":   formOf(300),
		"few rows": formOf(8, row("a", "3", 5), row("b", "", 2), row("ba", "xy", 7)),
		"many":     formOf(301, many[:5]...),
	} {
		wantBool(t, what, wantReadByWords(t, form), true)
		for n := range form {
			wantNotRead(t, what+", cut off", form[:n])
		}
		for b := range 256 {
			wantNotRead(t, what+", a byte behind", append(slices.Clone(form), byte(b)))
			wantReadByWords(t, append([]byte{byte(b)}, form...))
			for i := range form {
				p := slices.Clone(form)
				p[i] = byte(b)
				wantReadByWords(t, p)
			}
		}
	}
}

// P13.2: numbers that are not in their form, each number of a table.
func TestReadOfLongNumbers(t *testing.T) {
	wantBool(t, "as it should be", wantReadByWords(t, []byte{5, 1, 1, 97, 1, 98, 3}), true)
	wantNotRead(t, "the revision", []byte{133, 0, 1, 1, 97, 1, 98, 3})
	wantNotRead(t, "the count", []byte{5, 129, 0, 1, 97, 1, 98, 3})
	wantNotRead(t, "a key's length", []byte{5, 1, 129, 0, 97, 1, 98, 3})
	wantNotRead(t, "a value's length", []byte{5, 1, 1, 97, 129, 0, 98, 3})
	wantNotRead(t, "a Rev", []byte{5, 1, 1, 97, 1, 98, 131, 0})
	wantNotRead(t, "a revision of 0", []byte{128, 0, 0})
	wantNotRead(t, "a count of 0", []byte{5, 128, 0})
	over := []byte{255, 255, 255, 255, 255, 255, 255, 255, 255, 2} // beyond 64 bits
	wantNotRead(t, "the revision, too great", append(slices.Clone(over), 0))
	wantNotRead(t, "the count, too great", append([]byte{5}, over...))
	wantNotRead(t, "a Rev, too great", append([]byte{5, 1, 1, 97, 1, 98}, over...))
	wantNotRead(t, "eleven bytes", []byte{255, 255, 255, 255, 255, 255, 255, 255, 255, 129, 0, 0})
}

// P13.2: a revision above MaxRev, with and without rows.
func TestReadOfHighRevisions(t *testing.T) {
	for _, rev := range []uint64{maxRev + 1, maxRev + 2, 1 << 41, 1 << 62, 1 << 63, 1<<63 + 5, math.MaxUint64 - 1, math.MaxUint64} {
		wantNotRead(t, "no row", formOf(rev))
		wantNotRead(t, "a row", formOf(rev, row("a", "1", 1)))
		wantNotRead(t, "a row of that Rev", formOf(rev, row("a", "1", int(rev))))
	}
}

// P13.2: a count that is greater or less than there are rows, or greater than any bytes hold.
func TestReadOfWrongCounts(t *testing.T) {
	rows := []api.Row{row("a", "1", 1), row("b", "2", 2), row("c", "3", 3)}
	for n := range 4 {
		for _, count := range []uint64{0, 1, 2, 3, 4, 5, 127, 128, 1 << 20, 1 << 31, 1 << 32, 1 << 40, 1<<63 - 1, 1 << 63, math.MaxUint64} {
			p := formWithCount(9, count, rows[:n]...)
			wantBool(t, fmt.Sprintf("%d rows, count %d", n, count), wantReadByWords(t, p), int(count) == n)
		}
	}
}

// P13.2: keys out of order or twice, wherever they stand.
func TestReadOfKeysOutOfOrder(t *testing.T) {
	rev, rows := manyRows()
	for i := range len(rows) - 1 {
		turned := slices.Clone(rows)
		turned[i], turned[i+1] = turned[i+1], turned[i]
		wantNotRead(t, "two turned about", formOf(uint64(rev), turned...))
		twice := slices.Insert(slices.Clone(rows), i, row(string(rows[i].Key), "", 300))
		wantNotRead(t, "twice", formOf(uint64(rev), twice...))
		far := append(slices.Clone(rows), row(string(rows[i].Key), "", 300))
		wantNotRead(t, "twice, and far away", formOf(uint64(rev), far...))
	}
}

// P13.2: keys and values at their bounds and beyond, at the first, the middle and the last row.
func TestReadOfLengths(t *testing.T) {
	for place := range 3 {
		for _, n := range []int{0, 1, 2, 63, 64, 65, 66, 127, 128, 300} {
			keys := []string{"a", "m", "z"}
			rows := []api.Row{row("a", "1", 1), row("m", "2", 2), row("z", "3", 3)}
			rows[place].Key = []byte(keys[place] + strings.Repeat("x", max(n-1, 0)))[:n]
			wantBool(t, fmt.Sprintf("a key of %d bytes", n), wantReadByWords(t, formOf(9, rows...)), n >= 1 && n <= 64)
		}
		for _, n := range []int{0, 1, 127, 128, 255, 256, 257, 300, 16384} {
			rows := []api.Row{row("a", "1", 1), row("m", "2", 2), row("z", "3", 3)}
			rows[place].Value = []byte(text(n, 1))
			wantBool(t, fmt.Sprintf("a value of %d bytes", n), wantReadByWords(t, formOf(9, rows...)), n <= 256)
		}
	}
	huge := append([]byte{9, 1}, binary.AppendUvarint(nil, math.MaxUint64)...)
	wantNotRead(t, "a key longer than any bytes", append(huge, 97, 0, 1))
	huge = append([]byte{9, 1, 1, 97}, binary.AppendUvarint(nil, 1<<63)...)
	wantNotRead(t, "a value longer than any bytes", append(huge, 0, 1))
}

// P13.2: a Rev of 0, above the revision, or twice.
func TestReadOfRevs(t *testing.T) {
	for _, rev := range []int{1, 5, 127, 128, maxRev} {
		for _, own := range []int{0, 1, rev - 1, rev, rev + 1, rev + 2, maxRev, maxRev + 1, math.MaxInt, math.MinInt, -1} {
			p := formOf(uint64(rev), row("a", "1", own))
			wantBool(t, fmt.Sprintf("Rev %d at revision %d", own, rev), wantReadByWords(t, p), own >= 1 && own <= rev)
		}
	}
	rows := []api.Row{row("a", "1", 3), row("b", "1", 1), row("c", "1", 4), row("d", "1", 2)}
	wantBool(t, "no Rev twice", wantReadByWords(t, formOf(4, rows...)), true)
	for i := range rows {
		for j := range rows {
			again := slices.Clone(rows)
			again[i].Rev = again[j].Rev
			wantBool(t, "a Rev of another row", wantReadByWords(t, formOf(4, again...)), i == j)
		}
	}
	wantNotRead(t, "rows at revision 0", formOf(0, row("a", "1", 0)))
	wantNotRead(t, "more rows than revisions", formOf(1, row("a", "1", 1), row("b", "1", 1)))
}

// P13.2: no bytes at all.
func TestReadOfNothing(t *testing.T) {
	wantNotRead(t, "nil", nil)
	wantNotRead(t, "empty", []byte{})
	m, err := table.Read([]byte{0, 0})
	wantErr(t, "an empty table", err, api.OK)
	wantTable(t, "an empty table", m, 0)
}
