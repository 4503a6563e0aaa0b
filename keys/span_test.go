package keys_test

import (
	"bytes"
	"testing"

	"haulage/api"
	"haulage/keys"
)

// P4.4: the code of the row, and that with a byte 8 behind it; of no row too.
func TestSpan(t *testing.T) {
	for _, r := range append(someRows(10, 3000), someOf(edgeRows(), 7)...) {
		p, q, why := keys.Span(r)
		wantErr(t, "Span", why, api.OK)
		wantBytes(t, "the first", p, modelCode(r))
		wantBytes(t, "the second", q, append(modelCode(r), 8))
	}
	p, q, why := keys.Span(nil)
	wantErr(t, "Span of no row", why, api.OK)
	wantBytes(t, "the first of no row", p, nil)
	wantBytes(t, "the second of no row", q, []byte{8})
}

// wantSideBySide asks of each code whether it is in the span just if the row is a beginning.
func wantSideBySide(t *testing.T, r []api.Value, rows [][]api.Value, all [][]byte) {
	t.Helper()
	p, q, why := keys.Span(r)
	wantErr(t, "Span", why, api.OK)
	for i, u := range rows {
		in := bytes.Compare(p, all[i]) <= 0 && bytes.Compare(all[i], q) < 0
		if in != modelBegins(r, u) {
			t.Fatalf("%v in the span of %v: %v", u, r, in)
		}
	}
}

// P4.7: all rows with one beginning stand side by side, and no others among them.
func TestSideBySide(t *testing.T) {
	rows := edgeRows()
	all := codes(t, rows)
	for _, v := range edgeValues() {
		wantSideBySide(t, row(v), rows, all)
	}
	for _, r := range someOf(rows, 97) {
		wantSideBySide(t, r, rows, all)
	}
	wantSideBySide(t, nil, rows, all)
}

// P4.7: the same of rows of all sorts, and of their beginnings.
func TestSideBySideOfSome(t *testing.T) {
	rows := someRows(11, 1000)
	all := codes(t, rows)
	for _, r := range rows {
		for n := range len(r) + 1 {
			wantSideBySide(t, r[:n], rows, all)
		}
	}
}

// P4.7: of texts and tuples it is whole values that count, not their beginnings.
func TestBeginningsOfValues(t *testing.T) {
	p, q, why := keys.Span(row(text(7)))
	wantErr(t, "Span", why, api.OK)
	for _, u := range [][]api.Value{row(text(7, 0)), row(text(7, 7)), row(text(7, 255)), row(tuple(text(7))), row(text())} {
		code, _ := keys.Encode(u)
		if bytes.Compare(p, code) <= 0 && bytes.Compare(code, q) < 0 {
			t.Fatalf("%v is in the span of the text 7", u)
		}
	}
	for _, u := range [][]api.Value{row(text(7)), row(text(7), none()), row(text(7), text(255)), row(text(7), tuple(tuple()))} {
		code, _ := keys.Encode(u)
		if bytes.Compare(p, code) > 0 || bytes.Compare(code, q) >= 0 {
			t.Fatalf("%v is not in the span of the text 7", u)
		}
	}
}
