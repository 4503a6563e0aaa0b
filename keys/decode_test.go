package keys_test

import (
	"bytes"
	"encoding/binary"
	"math/rand"
	"testing"

	"haulage/api"
	"haulage/keys"
)

// wantAsModel holds Decode of some bytes to the model: its error, or a row whose code they are.
func wantAsModel(t *testing.T, p []byte) {
	t.Helper()
	r, why := keys.Decode(p)
	if wanted := modelFault(p); why != wanted || why != api.OK && len(r) != 0 {
		t.Fatalf("Decode of %v: %v, error %d, want %d", p, r, why, wanted)
	}
	if why == api.OK {
		wantBytes(t, "the code of what was decoded", modelCode(r), p)
		wantCode(t, r, p...)
	}
}

// P4.2, P4.6: there and back, without what counts for nothing, and with the one NaN.
func TestThereAndBack(t *testing.T) {
	for _, r := range append(someRows(2, 20000), edgeRows()...) {
		p, why := keys.Encode(r)
		wantErr(t, "Encode", why, api.OK)
		wantRow(t, p, modelPlain(r))
	}
}

// P4.2: no bytes are the code of the row without values.
func TestNoBytes(t *testing.T) {
	wantRow(t, nil, nil)
	wantRow(t, []byte{}, nil)
}

// P4.2: NaNs are answered with the bits of the one, in points too; the codes that others would have are none.
func TestDecodeNaNs(t *testing.T) {
	wantRow(t, []byte{4, 255, 248, 0, 0, 0, 0, 0, 0}, row(float(oneNaN)))
	zero, one := modelReal(0), modelReal(oneNaN)
	wantRow(t, bytes.Join([][]byte{{5}, one, zero}, nil), row(point(oneNaN, 0)))
	wantRow(t, bytes.Join([][]byte{{5}, zero, one}, nil), row(point(0, oneNaN)))
	for _, word := range []uint64{0, 1, 0x0007FFFFFFFFFFFF, 0x000FFFFFFFFFFFFD, 0x000FFFFFFFFFFFFE, 0xFFF0000000000001, 0xFFF7FFFFFFFFFFFF, 0xFFF8000000000001, 0xFFFFFFFFFFFFFFFF} {
		none := binary.BigEndian.AppendUint64(nil, word)
		wantNoRow(t, append([]byte{4}, none...), api.ErrKeysForm)
		wantNoRow(t, bytes.Join([][]byte{{5}, none, zero}, nil), api.ErrKeysForm)
		wantNoRow(t, bytes.Join([][]byte{{5}, zero, none}, nil), api.ErrKeysForm)
	}
}

// P4.2: each byte in the place of a Kind, ahead of much that might be its content.
func TestDecodeKinds(t *testing.T) {
	for k := range 256 {
		p := append([]byte{byte(k)}, make([]byte, 40)...)
		for i := range p {
			wantAsModel(t, p[:i])
			wantAsModel(t, append([]byte{7}, p[:i]...))
			wantAsModel(t, append(append([]byte{7, 6, 0}, p[:i]...), 0))
		}
		wantAsModel(t, []byte{byte(k), 1, 0})
		wantAsModel(t, []byte{2, byte(k)})
		wantAsModel(t, []byte{6, byte(k), 0})
		wantAsModel(t, []byte{6, 0, byte(k)})
		wantAsModel(t, []byte{6, 0, byte(k), 0})
		wantAsModel(t, []byte{7, 0, byte(k)})
		wantAsModel(t, []byte{1, byte(k)})
	}
}

// P4.2: bytes that end ahead of the end of a code. The beginning of a code is one just if it ends between two values, or at a byte 0 of a text, which is taken for its end then.
func TestDecodeCutOff(t *testing.T) {
	for _, r := range append(someRows(3, 3000), someOf(edgeRows(), 7)...) {
		p := modelCode(r)
		whole := map[int]int{0: 0}
		for n := range r {
			whole[len(modelCode(r[:n+1]))] = n + 1
		}
		for i := range len(p) + 1 {
			if n, ok := whole[i]; ok {
				wantRow(t, p[:i], modelPlain(r[:n]))
			} else if p[i-1] == 0 && p[i] == 255 {
				wantAsModel(t, p[:i])
			} else {
				wantNoRow(t, p[:i], api.ErrKeysForm)
			}
		}
	}
}

// P4.2: tuples in 15, in 16 and in 17 tuples, whole and cut off, with more behind them.
func TestDecodeDepth(t *testing.T) {
	for n := range 40 {
		sevens := bytes.Repeat([]byte{7}, n)
		for _, more := range [][]byte{nil, {0}, {1}, {6, 0}, {8}, {255}, make([]byte, n), append([]byte{1}, make([]byte, n)...)} {
			p := append(bytes.Clone(sevens), more...)
			wantAsModel(t, p)
			if n > 16 {
				wantNoRow(t, p, api.ErrKeysDeep)
			}
		}
	}
	wantRow(t, append(bytes.Repeat([]byte{7}, 15), append([]byte{3, 128, 0, 0, 0, 0, 0, 0, 1}, make([]byte, 15)...)...), row(within(num(1), 15)))
	wantRow(t, append(bytes.Repeat([]byte{7}, 16), append([]byte{2, 1}, make([]byte, 16)...)...), row(within(flag(true), 16)))
}

// P4.2: a byte 7 that stands in no Kind's place is none; a tuple that is over counts no more.
func TestSevensThatAreNoTuples(t *testing.T) {
	sevens := bytes.Repeat([]byte{7}, 40)
	wantRow(t, append(append([]byte{6}, sevens...), 0), row(text(sevens...)))
	deep := append(append(bytes.Repeat([]byte{7}, 16), append([]byte{6}, sevens...)...), make([]byte, 17)...)
	wantRow(t, deep, row(within(text(sevens...), 16)))
	wantRow(t, append([]byte{7}, append(bytes.Repeat([]byte{7, 0}, 40), 0)...), row(tuple(make40()...)))
}

// make40 are as many empty tuples.
func make40() []api.Value {
	var all []api.Value
	for range 40 {
		all = append(all, tuple())
	}
	return all
}

// P4.2: the first fault from the left is the answer, whatever stands behind it.
func TestDecodeFirstFault(t *testing.T) {
	deep := bytes.Repeat([]byte{7}, 17)
	for _, form := range [][]byte{{0}, {8}, {255}, {2, 2}, {2, 7}, {7, 9}, {7, 0, 0}, {4, 255, 255, 0, 0, 0, 0, 0, 0}, {6, 1, 0, 8}, {6, 0, 255, 0, 0}} {
		wantNoRow(t, append(bytes.Clone(form), deep...), api.ErrKeysForm)
		wantNoRow(t, append(bytes.Clone(deep), form...), api.ErrKeysDeep)
		wantNoRow(t, append([]byte{1, 7, 1, 0}, append(bytes.Clone(deep), form...)...), api.ErrKeysDeep)
		wantAsModel(t, append(bytes.Clone(deep[:14]), append(bytes.Clone(form), deep...)...))
	}
}

// P4.2, P4.6: codes of which some bytes were changed, put in or taken out.
func TestDecodeChanged(t *testing.T) {
	d := rand.New(rand.NewSource(4))
	some := []byte{0, 1, 2, 3, 4, 5, 6, 7, 7, 7, 8, 127, 128, 240, 248, 254, 255}
	for _, r := range someRows(5, 30000) {
		p := modelCode(r)
		for range 1 + d.Intn(3) {
			at := d.Intn(len(p) + 1)
			b := some[d.Intn(len(some))]
			switch {
			case d.Intn(2) == 0:
				p = append(p[:at:at], append(bytes.Repeat([]byte{b}, 1+d.Intn(3)*d.Intn(9)), p[at:]...)...)
			case at < len(p):
				p = append(p[:at:at], append([]byte{b}, p[at+1:]...)...)
			default:
				p = p[:d.Intn(at+1)]
			}
		}
		wantAsModel(t, p)
	}
}

// rowsOf are all rows whose code has so many bytes, of nothings, bools, texts of these bytes, and tuples.
func rowsOf(size int, letters []byte) [][]api.Value {
	if size == 0 {
		return [][]api.Value{nil}
	}
	var all [][]api.Value
	for n := 1; n <= size; n++ {
		for _, v := range valuesOf(n, letters) {
			for _, rest := range rowsOf(size-n, letters) {
				all = append(all, append(row(v), rest...))
			}
		}
	}
	return all
}

// valuesOf are all values whose code has so many bytes.
func valuesOf(size int, letters []byte) []api.Value {
	switch size {
	case 0:
		return nil
	case 1:
		return row(none())
	}
	var all []api.Value
	if size == 2 {
		all = row(flag(false), flag(true))
	}
	for _, p := range textsOf(size-2, letters) {
		all = append(all, text(p...))
	}
	for _, parts := range rowsOf(size-2, letters) {
		all = append(all, tuple(parts...))
	}
	return all
}

// textsOf are all texts that take so many bytes, a byte 0 taking two.
func textsOf(size int, letters []byte) [][]byte {
	if size <= 0 {
		return make([][]byte, 1+size)
	}
	var all [][]byte
	for _, b := range letters {
		for _, rest := range textsOf(max(size-1-oneIf(b == 0), -1), letters) {
			all = append(all, append([]byte{b}, rest...))
		}
	}
	return all
}

// P4.2, P4.5, P4.6: of all bytes of a length, from few letters, just those are decoded that are the code of a row, and to that row.
func TestDecodeAll(t *testing.T) {
	letters := []byte{0, 1, 2, 6, 7, 255}
	for size := range 8 {
		rows := map[string][]api.Value{}
		for _, r := range rowsOf(size, letters) {
			wantCode(t, r, modelCode(r)...)
			if code := string(modelCode(r)); rows[code] != nil {
				t.Fatalf("%v and %v have one code", r, rows[code])
			} else {
				rows[code] = r
			}
		}
		p := make([]byte, size)
		count := 1
		for range size {
			count *= len(letters)
		}
		for n := range count {
			for i := range p {
				p[i] = letters[n%len(letters)]
				n /= len(letters)
			}
			if r, ok := rows[string(p)]; ok {
				wantRow(t, p, r)
			} else {
				wantNoRow(t, p, api.ErrKeysForm)
			}
		}
	}
}

// P0.1: long rows and long texts end as they should.
func TestLong(t *testing.T) {
	zeros := make([]byte, 1<<18)
	r := row(text(zeros...), tuple(text(bytes.Repeat([]byte{255}, 1<<18)...)))
	for range 1 << 16 {
		r = append(r, none())
	}
	p := modelCode(r)
	wantCode(t, r, p...)
	wantRow(t, p, r)
	wantOrder(t, r, r, 0)
	wantOrder(t, r, r[:len(r)-1], 1)
	wantNoRow(t, append(p, 6), api.ErrKeysForm)
	wantNoRow(t, append(p, bytes.Repeat([]byte{7}, 1<<18)...), api.ErrKeysDeep)
}
