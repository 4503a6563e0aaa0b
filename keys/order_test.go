package keys_test

import (
	"bytes"
	"math"
	"slices"
	"testing"

	"haulage/api"
	"haulage/keys"
)

// sign is -1, 0 or 1.
func sign(n int) int { return max(-1, min(n, 1)) }

// wantSorted holds the order of two rows, and that of their codes, to a number.
func wantSorted(t *testing.T, a, b []api.Value, p, q []byte, wanted int) {
	t.Helper()
	wantOrder(t, a, b, wanted)
	if n := bytes.Compare(p, q); n != wanted {
		t.Fatalf("the codes of %v and %v stand by %d, want %d", a, b, n, wanted)
	}
}

// codes are those of good rows.
func codes(t *testing.T, rows [][]api.Value) [][]byte {
	t.Helper()
	var all [][]byte
	for _, r := range rows {
		p, why := keys.Encode(r)
		wantErr(t, "Encode", why, api.OK)
		all = append(all, p)
	}
	return all
}

// P4.3, P4.5: values that rise, each against each.
func TestValuesRise(t *testing.T) {
	var rows [][]api.Value
	for _, v := range edgeValues() {
		rows = append(rows, row(v))
	}
	all := codes(t, rows)
	for i, a := range rows {
		for k, b := range rows {
			wantSorted(t, a, b, all[i], all[k], sign(i-k))
			wantOrder(t, row(tuple(a...)), row(tuple(b...)), sign(i-k))
		}
	}
}

// P4.3, P4.5: rows that rise, each against its neighbours and against some.
func TestRowsRise(t *testing.T) {
	rows := edgeRows()
	all := codes(t, rows)
	for i := range rows {
		for k := max(i-3, 0); k < min(i+4, len(rows)); k++ {
			wantSorted(t, rows[i], rows[k], all[i], all[k], sign(i-k))
		}
		for k := i % 997; k < len(rows); k += 997 {
			wantSorted(t, rows[i], rows[k], all[i], all[k], sign(i-k))
		}
	}
}

// P4.3, P4.5: rows of all sorts, with something in the fields that count for nothing.
func TestOrderOfSome(t *testing.T) {
	rows := someRows(6, 1000)
	all := codes(t, rows)
	for i, a := range rows {
		for k, b := range rows {
			wantSorted(t, a, b, all[i], all[k], modelRows(a, b))
		}
	}
}

// P4.3: NaNs of all bits are the same; fields that count for nothing do not count.
func TestWhatIsTheSame(t *testing.T) {
	nans := append(otherNaNs(), oneNaN, math.NaN())
	for _, x := range nans {
		for _, y := range nans {
			wantOrder(t, row(float(x)), row(float(y)), 0)
			wantOrder(t, row(point(x, 1)), row(point(y, 1)), 0)
			wantOrder(t, row(point(x, 1)), row(point(y, 2)), -1)
			wantOrder(t, row(point(1, x)), row(point(1, y)), 0)
			wantOrder(t, row(point(1, x)), row(point(2, y)), -1)
		}
	}
	for _, r := range someRows(7, 2000) {
		wantOrder(t, r, modelPlain(r), 0)
		wantOrder(t, modelPlain(r), r, 0)
	}
	wantOrder(t, nil, row(), 0)
	wantOrder(t, row(), nil, 0)
	wantOrder(t, row(text()), row(api.Value{Kind: api.KeyText, Text: []byte{}}), 0)
	wantOrder(t, row(tuple()), row(api.Value{Kind: api.KeyTuple, Parts: []api.Value{}}), 0)
}

// P4.3: the first place at which rows are unlike decides, whatever stands behind it.
func TestFirstPlace(t *testing.T) {
	wantOrder(t, row(num(1), num(9)), row(num(2), num(0)), -1)
	wantOrder(t, row(num(1), num(9), none()), row(num(1), num(0)), 1)
	wantOrder(t, row(none(), none(), none()), row(flag(false)), -1)
	wantOrder(t, row(tuple(none()), text(9)), row(tuple(none(), none()), text(0)), -1)
	wantOrder(t, row(tuple(text(1), none())), row(tuple(text(1, 0))), -1)
	wantOrder(t, row(text(0, 0)), row(text(0), text(0)), 1)
	wantOrder(t, row(text(255)), row(tuple()), -1)
}

// P4.3: the error of the first row, if it has one; else that of the second, wherever they are unlike.
func TestCompareErrors(t *testing.T) {
	form, deep := row(none(), kind(0)), row(none(), within(none(), 17))
	for _, c := range []struct {
		a, b []api.Value
		err  api.Errno
	}{
		{form, deep, api.ErrKeysForm},
		{deep, form, api.ErrKeysDeep},
		{form, form, api.ErrKeysForm},
		{deep, deep, api.ErrKeysDeep},
		{row(flag(true), kind(8)), row(flag(false)), api.ErrKeysForm},
		{row(flag(false)), row(flag(true), kind(8)), api.ErrKeysForm},
		{row(flag(true), within(none(), 17)), row(), api.ErrKeysDeep},
		{nil, row(flag(true), within(none(), 17)), api.ErrKeysDeep},
		{row(kind(9)), row(kind(9)), api.ErrKeysForm},
	} {
		if n, why := keys.Compare(c.a, c.b); n != 0 || why != c.err {
			t.Fatalf("Compare of %v and %v: %d, error %d, want %d", c.a, c.b, n, why, c.err)
		}
	}
}

// P4.8: turned about it is the other way round; a row is the same as itself; and three stand in one order.
func TestOrderIsOne(t *testing.T) {
	rows := append(someOf(edgeRows(), 211), someRows(8, 60)...)
	order := make([][]int, len(rows))
	for i, a := range rows {
		for _, b := range rows {
			n, why := keys.Compare(a, b)
			wantErr(t, "Compare", why, api.OK)
			order[i] = append(order[i], n)
		}
	}
	for i := range rows {
		if order[i][i] != 0 {
			t.Fatalf("%v is unlike itself", rows[i])
		}
		for k := range rows {
			if order[i][k] != -order[k][i] {
				t.Fatalf("%v and %v: %d and %d", rows[i], rows[k], order[i][k], order[k][i])
			}
			for m := range rows {
				if order[i][k] <= 0 && order[k][m] <= 0 && order[i][m] > 0 {
					t.Fatalf("%v, %v, %v stand in no order", rows[i], rows[k], rows[m])
				}
			}
		}
	}
}

// P4.5: whoever keeps the codes in order keeps the rows in order.
func TestSortedCodes(t *testing.T) {
	all := codes(t, someRows(9, 3000))
	slices.SortFunc(all, bytes.Compare)
	for i := 1; i < len(all); i++ {
		a, why := keys.Decode(all[i-1])
		wantErr(t, "Decode", why, api.OK)
		b, why := keys.Decode(all[i])
		wantErr(t, "Decode", why, api.OK)
		wantOrder(t, a, b, bytes.Compare(all[i-1], all[i]))
	}
}
