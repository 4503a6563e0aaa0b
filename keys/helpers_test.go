package keys_test

import (
	"bytes"
	"math"
	"math/rand"
	"slices"
	"testing"

	"haulage/api"
	"haulage/keys"
)

// oneNaN is that of the chapter; math.NaN is another.
var oneNaN = math.Float64frombits(0x7FF8000000000000)

// minusZero is no constant that could be written.
var minusZero = math.Copysign(0, -1)

func none() api.Value { return api.Value{Kind: api.KeyNone} }

func flag(b bool) api.Value { return api.Value{Kind: api.KeyBool, Bool: b} }

func num(n int64) api.Value { return api.Value{Kind: api.KeyInt, Int: n} }

func float(x float64) api.Value { return api.Value{Kind: api.KeyReal, Real: x} }

func point(x, y float64) api.Value { return api.Value{Kind: api.KeyPoint, Point: complex(x, y)} }

func text(p ...byte) api.Value { return api.Value{Kind: api.KeyText, Text: p} }

func tuple(parts ...api.Value) api.Value { return api.Value{Kind: api.KeyTuple, Parts: parts} }

func kind(k int) api.Value { return api.Value{Kind: k} }

func row(values ...api.Value) []api.Value { return values }

// within is a value in so many tuples.
func within(v api.Value, tuples int) api.Value {
	for range tuples {
		v = tuple(v)
	}
	return v
}

// sameBits says whether two real numbers are one, a NaN its own like.
func sameBits(a, b float64) bool { return math.Float64bits(a) == math.Float64bits(b) }

// sameValue holds all fields against each other, those that count for nothing too; lists that are nil and empty ones are the same.
func sameValue(a, b api.Value) bool {
	return a.Kind == b.Kind && a.Bool == b.Bool && a.Int == b.Int && sameBits(a.Real, b.Real) &&
		sameBits(real(a.Point), real(b.Point)) && sameBits(imag(a.Point), imag(b.Point)) &&
		bytes.Equal(a.Text, b.Text) && sameRow(a.Parts, b.Parts)
}

func sameRow(a, b []api.Value) bool { return slices.EqualFunc(a, b, sameValue) }

func wantBytes(t *testing.T, what string, got, wanted []byte) {
	t.Helper()
	if !bytes.Equal(got, wanted) {
		t.Fatalf("%s: %v, want %v", what, got, wanted)
	}
}

func wantErr(t *testing.T, what string, got, wanted api.Errno) {
	t.Helper()
	if got != wanted {
		t.Fatalf("%s: error %d, want %d", what, got, wanted)
	}
}

func wantCode(t *testing.T, r []api.Value, code ...byte) {
	t.Helper()
	p, why := keys.Encode(r)
	wantErr(t, "Encode", why, api.OK)
	wantBytes(t, "Encode", p, code)
}

func wantRow(t *testing.T, p []byte, wanted []api.Value) {
	t.Helper()
	r, why := keys.Decode(p)
	wantErr(t, "Decode", why, api.OK)
	if !sameRow(r, wanted) {
		t.Fatalf("Decode of %v: %v, want %v", p, r, wanted)
	}
}

func wantNoRow(t *testing.T, p []byte, wanted api.Errno) {
	t.Helper()
	r, why := keys.Decode(p)
	if why != wanted || len(r) != 0 {
		t.Fatalf("Decode of %v: %v, error %d, want %d", p, r, why, wanted)
	}
}

func wantOrder(t *testing.T, a, b []api.Value, wanted int) {
	t.Helper()
	if n, why := keys.Compare(a, b); n != wanted || why != api.OK {
		t.Fatalf("Compare of %v and %v: %d, error %d, want %d", a, b, n, why, wanted)
	}
}

// wantFault holds all calls that take a row to one error, with zero values beside it.
func wantFault(t *testing.T, r []api.Value, wanted api.Errno) {
	t.Helper()
	p, why := keys.Encode(r)
	if why != wanted || len(p) != 0 {
		t.Fatalf("Encode: %v, error %d, want %d", p, why, wanted)
	}
	p, q, why := keys.Span(r)
	if why != wanted || len(p) != 0 || len(q) != 0 {
		t.Fatalf("Span: %v, %v, error %d, want %d", p, q, why, wanted)
	}
	for _, good := range [][]api.Value{nil, {}, {none()}, {tuple()}, {within(text(1), 16)}} {
		if n, why := keys.Compare(r, good); n != 0 || why != wanted {
			t.Fatalf("Compare, as the first: %d, error %d, want %d", n, why, wanted)
		}
		if n, why := keys.Compare(good, r); n != 0 || why != wanted {
			t.Fatalf("Compare, as the second: %d, error %d, want %d", n, why, wanted)
		}
	}
}

// edgeInts rise.
func edgeInts() []int64 {
	return []int64{math.MinInt64, math.MinInt64 + 1, -1 << 56, -1 << 32, -257, -256, -255, -2, -1, 0, 1, 2, 127, 128, 255, 256, 1 << 32, 1 << 56, math.MaxInt64 - 1, math.MaxInt64}
}

// edgeReals rise, in the order of the chapter.
func edgeReals() []float64 {
	const least, normal = math.SmallestNonzeroFloat64, 0x1p-1022
	return []float64{math.Inf(-1), -math.MaxFloat64, -3, -2, math.Nextafter(-1, -2), -1, -0.5, -normal, -least, minusZero, 0, least, 2 * least, normal, 0.5, 1, math.Nextafter(1, 2), 2, 3, math.MaxFloat64, math.Inf(1), oneNaN}
}

// otherNaNs have other bits than the one.
func otherNaNs() []float64 {
	var all []float64
	for _, bits := range []uint64{0x7FF0000000000001, 0x7FF7FFFFFFFFFFFF, 0x7FF8000000000001, 0x7FFFFFFFFFFFFFFF, 0xFFF0000000000001, 0xFFF8000000000000, 0xFFF8000000000001, 0xFFFFFFFFFFFFFFFF} {
		all = append(all, math.Float64frombits(bits))
	}
	return all
}

// edgeTexts rise.
func edgeTexts() [][]byte {
	return [][]byte{nil, {0}, {0, 0}, {0, 0, 0}, {0, 1}, {0, 6}, {0, 254}, {0, 255}, {0, 255, 0}, {0, 255, 255}, {1}, {1, 0}, {1, 0, 255}, {1, 1}, {6}, {7}, {7, 0}, {7, 0, 7}, {7, 7}, {8}, {254}, {254, 255}, {255}, {255, 0}, {255, 0, 255}, {255, 255}}
}

// someReal is an edge, another NaN, or a number of any bits.
func someReal(d *rand.Rand) float64 {
	switch d.Intn(4) {
	case 0:
		return otherNaNs()[d.Intn(len(otherNaNs()))]
	case 1:
		return math.Float64frombits(d.Uint64())
	}
	return edgeReals()[d.Intn(len(edgeReals()))]
}

// someText is an edge, or some bytes among which 0 and 255 are often.
func someText(d *rand.Rand) []byte {
	if d.Intn(2) == 0 {
		return bytes.Clone(edgeTexts()[d.Intn(len(edgeTexts()))])
	}
	p := make([]byte, d.Intn(12))
	for i := range p {
		p[i] = []byte{0, 255, 7, 1, byte(d.Intn(256))}[d.Intn(5)]
	}
	return p
}

// someValue is good where it is in so many tuples, with something in every field that counts for nothing.
func someValue(d *rand.Rand, tuples int) api.Value {
	v := api.Value{Kind: 1 + d.Intn(7), Bool: d.Intn(2) == 0, Int: int64(d.Uint64()) >> d.Intn(64), Real: someReal(d), Point: complex(someReal(d), someReal(d)), Text: someText(d), Parts: row(kind(9), kind(0))}
	if v.Kind == api.KeyInt && d.Intn(2) == 0 {
		v.Int = edgeInts()[d.Intn(len(edgeInts()))]
	}
	if v.Kind == api.KeyTuple && tuples == 16 {
		v.Kind = api.KeyText
	}
	if v.Kind == api.KeyTuple {
		v.Parts = someValues(d, tuples+1)
	}
	return v
}

// someValues are few, so that tuples come to an end, but often one, so that they go deep.
func someValues(d *rand.Rand, tuples int) []api.Value {
	var all []api.Value
	for range []int{0, 1, 1, 1, 2, 3}[d.Intn(6)] {
		all = append(all, someValue(d, tuples))
	}
	return all
}

// someRows are good rows of all sorts, some of them as deep as can be.
func someRows(seed int64, n int) [][]api.Value {
	d := rand.New(rand.NewSource(seed))
	all := [][]api.Value{nil, {}}
	for i := range n {
		r := someValues(d, 0)
		if i%10 == 0 {
			r = row(none(), within(someValue(d, 16), 16), someValue(d, 0))
		}
		all = append(all, r)
	}
	return all
}

// edgeValues rise.
func edgeValues() []api.Value {
	all := row(none(), flag(false), flag(true))
	for _, n := range edgeInts() {
		all = append(all, num(n))
	}
	for _, x := range edgeReals() {
		all = append(all, float(x))
	}
	for _, x := range edgeReals() {
		all = append(all, point(x, math.Inf(-1)), point(x, minusZero), point(x, 0), point(x, oneNaN))
	}
	for _, p := range edgeTexts() {
		all = append(all, text(p...))
	}
	return append(all, tuple(), tuple(none()), tuple(none(), none()), tuple(none(), text()), tuple(none(), tuple()), tuple(flag(true)), tuple(num(-1)), tuple(float(0)), tuple(text()), tuple(text(), none()), tuple(text(0)), tuple(text(255)), tuple(tuple()), tuple(tuple(), none()), tuple(tuple(), tuple()), tuple(tuple(none())), within(none(), 15))
}

// edgeRows rise: each edge alone, and each with each behind it.
func edgeRows() [][]api.Value {
	all := [][]api.Value{nil}
	for _, v := range edgeValues() {
		all = append(all, row(v))
		for _, w := range edgeValues() {
			all = append(all, row(v, w))
		}
	}
	return all
}

// someOf takes each so many-th row.
func someOf(rows [][]api.Value, step int) [][]api.Value {
	var few [][]api.Value
	for i := 0; i < len(rows); i += step {
		few = append(few, rows[i])
	}
	return few
}
