package merkle_test

import (
	"fmt"
	"slices"
	"testing"

	"haulage/api"
)

// P10.1: every number of bits from 1 to 64 is right, and no other one is, with rows and without.
func TestNewBits(t *testing.T) {
	rows := []api.Row{row("a", "1", 1), row("b", "", 2)}
	for bits := 1; bits <= 64; bits++ {
		wantTree(t, fmt.Sprint(bits, " bits"), fresh(t, bits), bits)
		wantTree(t, fmt.Sprint(bits, " bits"), fresh(t, bits, rows...), bits, rows...)
	}
	for _, bits := range wrongBits() {
		wantNoNew(t, fmt.Sprint(bits, " bits, no rows"), nil, bits, api.ErrArg)
		wantNoNew(t, fmt.Sprint(bits, " bits"), rows, bits, api.ErrArg)
	}
}

// P10.1: keys in their order: byte by byte, a byte above 127 behind those below, a beginning ahead of what it begins, nothing ahead of all.
func TestNewInOrder(t *testing.T) {
	keys := []string{"", "\x00", "\x00\x00", "\x00\x01", "\x01", "A", "B", "a", "a\x00", "aa", "ab", "abc", "b", "\x7f", "\x80", "\xc3\xa4", "\xff", "\xff\x00", "\xff\xff"}
	var rows []api.Row
	for i, key := range keys {
		rows = append(rows, row(key, "v", i))
	}
	wantTree(t, "all keys", fresh(t, 64, rows...), 64, rows...)
	for i := range rows {
		for j := range rows {
			two := []api.Row{rows[i], rows[j]}
			if i < j {
				wantTree(t, fmt.Sprintf("%q, %q", keys[i], keys[j]), fresh(t, 20, two...), 20, two...)
			} else {
				wantNoNew(t, fmt.Sprintf("%q, %q", keys[i], keys[j]), two, 20, api.ErrMerkOrder)
			}
		}
	}
}

// P10.1: two rows in the wrong order, or a key twice, wherever among many they are, and though the one ahead of them be in order.
func TestNewOutOfOrder(t *testing.T) {
	for i := range 9 {
		rows := manyRows(10)
		rows[i], rows[i+1] = rows[i+1], rows[i]
		wantNoNew(t, fmt.Sprint("turned about at ", i), rows, 64, api.ErrMerkOrder)
		rows = manyRows(10)
		rows[i+1].Key = slices.Clone(rows[i].Key)
		wantNoNew(t, fmt.Sprint("twice at ", i), rows, 64, api.ErrMerkOrder)
	}
	wantNoNew(t, "empty keys", []api.Row{row("", "1", 1), row("", "2", 2)}, 64, api.ErrMerkOrder)
	wantNoNew(t, "a key that is nil and an empty one", []api.Row{{}, {Key: []byte{}}}, 64, api.ErrMerkOrder)
	wantNoNew(t, "one row twice", []api.Row{row("a", "1", 1), row("a", "1", 1)}, 64, api.ErrMerkOrder)
	wantNoNew(t, "one key at both ends", []api.Row{row("a", "1", 1), row("b", "1", 1), row("a", "1", 1)}, 64, api.ErrMerkOrder)
	two := rowsIn(7, 2)
	slices.Reverse(two)
	wantNoNew(t, "of one bucket", two, 64, api.ErrMerkOrder)
}

// P10.1, P0.2: wrong bits come ahead of a wrong order.
func TestNewFirstError(t *testing.T) {
	for _, bits := range wrongBits() {
		wantNoNew(t, fmt.Sprint(bits, " bits"), []api.Row{row("b", "", 1), row("a", "", 1)}, bits, api.ErrArg)
		wantNoNew(t, fmt.Sprint(bits, " bits"), []api.Row{row("a", "", 1), row("a", "", 1)}, bits, api.ErrArg)
	}
}

// P10.1: no rows, be they nil or empty; and rows of nothing.
func TestNewOfNothing(t *testing.T) {
	wantTree(t, "no rows", fresh(t, 64, []api.Row{}...), 64)
	wantTree(t, "an empty row", fresh(t, 64, api.Row{}), 64, api.Row{})
	wantTree(t, "an empty row", fresh(t, 64, api.Row{Key: []byte{}, Value: []byte{}}), 64, api.Row{})
}
