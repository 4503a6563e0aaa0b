package parcel_test

import (
	"bytes"
	"slices"
	"testing"

	"haulage/api"
	"haulage/parcel"
)

// wantDone asks a writer for its bytes, or for its fault and no bytes; twice, since asking changes nothing.
func wantDone(t *testing.T, w *parcel.Writer, want api.Errno, bs ...byte) {
	t.Helper()
	for range 2 {
		if p, err := w.Done(); err != want || !bytes.Equal(p, bs) {
			t.Fatalf("Done: %v, %v; want %v, %v", p, err, bs, want)
		}
	}
}

// wantEnd asks a reader how many bytes are left, and for its fault; twice, since asking changes nothing.
func wantEnd(t *testing.T, r *parcel.Reader, rest int, want api.Errno) {
	t.Helper()
	for range 2 {
		if n, err := r.Rest(), r.Done(); n != rest || err != want {
			t.Fatalf("Rest %d, Done %v; want %d, %v", n, err, rest, want)
		}
	}
}

// want compares one answer.
func want[T comparable](t *testing.T, what string, got, wanted T) {
	t.Helper()
	if got != wanted {
		t.Fatalf("%s: %v, want %v", what, got, wanted)
	}
}

// wantBytes compares an answer of bytes; none and nil are the same.
func wantBytes(t *testing.T, what string, got []byte, wanted ...byte) {
	t.Helper()
	if !bytes.Equal(got, wanted) {
		t.Fatalf("%s: %v, want %v", what, got, wanted)
	}
}

// pieces are the calls of a writer that lay something down or open and close, each with right arguments.
func pieces() []func(*parcel.Writer) {
	return []func(*parcel.Writer){
		func(w *parcel.Writer) { w.Byte(1) },
		func(w *parcel.Writer) { w.Fixed(1, 1) },
		func(w *parcel.Writer) { w.Num(1) },
		func(w *parcel.Writer) { w.Int(1) },
		func(w *parcel.Writer) { w.Real(1) },
		func(w *parcel.Writer) { w.Raw([]byte{1}) },
		func(w *parcel.Writer) { w.Raw(nil) },
		func(w *parcel.Writer) { w.Text([]byte{1}) },
		func(w *parcel.Writer) { w.Open() },
		func(w *parcel.Writer) { w.Close() },
		func(w *parcel.Writer) { w.Byte(-1) },
		func(w *parcel.Writer) { w.Fixed(1, 9) },
	}
}

// takings are the nine calls of a reader; each says whether its answer was zero.
func takings() []func(*parcel.Reader) bool {
	return []func(*parcel.Reader) bool{
		func(r *parcel.Reader) bool { return r.Byte() == 0 },
		func(r *parcel.Reader) bool { return r.Fixed(1) == 0 },
		func(r *parcel.Reader) bool { return r.Fixed(0) == 0 },
		func(r *parcel.Reader) bool { return r.Num() == 0 },
		func(r *parcel.Reader) bool { return r.Int() == 0 },
		func(r *parcel.Reader) bool { return r.Real() == 0 },
		func(r *parcel.Reader) bool { return len(r.Raw(1)) == 0 },
		func(r *parcel.Reader) bool { return len(r.Raw(-1)) == 0 },
		func(r *parcel.Reader) bool { return len(r.Text(9)) == 0 },
		func(r *parcel.Reader) bool { return r.Enter() == 0 },
		func(r *parcel.Reader) bool { r.Leave(); return true },
	}
}

// times is n bytes b.
func times(n int, b byte) []byte { return bytes.Repeat([]byte{b}, n) }

// join is the parts, one behind the other.
func join(parts ...[]byte) []byte { return slices.Concat(parts...) }
