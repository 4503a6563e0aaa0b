package parcel_test

import (
	"encoding/binary"
	"math"
	"testing"

	"haulage/api"
	"haulage/parcel"
)

// P1.1: the room is what New was told, 0 if that is below 0.
func TestNew(t *testing.T) {
	for _, room := range []int{0, 1, 2, 127, 128, 1000} {
		w := parcel.New(room)
		want(t, "Len", w.Len(), 0)
		wantDone(t, w, api.OK)
		w.Raw(times(room, 5))
		want(t, "Len of the full room", w.Len(), room)
		wantDone(t, w, api.OK, times(room, 5)...)
		w.Byte(5)
		wantDone(t, w, api.ErrParRoom)
	}
	for _, room := range []int{-1, -2, math.MinInt} {
		w := parcel.New(room)
		w.Raw(nil)
		wantDone(t, w, api.OK)
		w.Byte(5)
		wantDone(t, w, api.ErrParRoom)
	}
	w := parcel.New(math.MaxInt)
	w.Raw(times(300, 1))
	w.Open()
	w.Close()
	wantDone(t, w, api.OK, append(times(300, 1), 0)...)
	w.Close()
	wantDone(t, w, api.ErrArg)
}

// P1.2: each piece, ordinary and at its edges.
func TestPieces(t *testing.T) {
	for _, c := range []struct {
		what string
		lay  func(*parcel.Writer)
		want []byte
	}{
		{"Byte(0)", func(w *parcel.Writer) { w.Byte(0) }, []byte{0}},
		{"Byte(127)", func(w *parcel.Writer) { w.Byte(127) }, []byte{127}},
		{"Byte(128)", func(w *parcel.Writer) { w.Byte(128) }, []byte{128}},
		{"Byte(255)", func(w *parcel.Writer) { w.Byte(255) }, []byte{255}},
		{"Num(0)", func(w *parcel.Writer) { w.Num(0) }, []byte{0}},
		{"Num(1)", func(w *parcel.Writer) { w.Num(1) }, []byte{1}},
		{"Num(127)", func(w *parcel.Writer) { w.Num(127) }, []byte{127}},
		{"Num(128)", func(w *parcel.Writer) { w.Num(128) }, []byte{128, 1}},
		{"Num(300)", func(w *parcel.Writer) { w.Num(300) }, []byte{172, 2}},
		{"Num(2^14-1)", func(w *parcel.Writer) { w.Num(1<<14 - 1) }, []byte{255, 127}},
		{"Num(2^14)", func(w *parcel.Writer) { w.Num(1 << 14) }, []byte{128, 128, 1}},
		{"Num(2^63)", func(w *parcel.Writer) { w.Num(1 << 63) }, append(times(9, 128), 1)},
		{"Num(2^63-1)", func(w *parcel.Writer) { w.Num(1<<63 - 1) }, append(times(8, 255), 127)},
		{"Num(2^64-1)", func(w *parcel.Writer) { w.Num(math.MaxUint64) }, append(times(9, 255), 1)},
		{"Int(0)", func(w *parcel.Writer) { w.Int(0) }, []byte{0}},
		{"Int(-1)", func(w *parcel.Writer) { w.Int(-1) }, []byte{1}},
		{"Int(1)", func(w *parcel.Writer) { w.Int(1) }, []byte{2}},
		{"Int(63)", func(w *parcel.Writer) { w.Int(63) }, []byte{126}},
		{"Int(-64)", func(w *parcel.Writer) { w.Int(-64) }, []byte{127}},
		{"Int(64)", func(w *parcel.Writer) { w.Int(64) }, []byte{128, 1}},
		{"Int(-65)", func(w *parcel.Writer) { w.Int(-65) }, []byte{129, 1}},
		{"Int(greatest)", func(w *parcel.Writer) { w.Int(math.MaxInt64) }, join([]byte{254}, times(8, 255), []byte{1})},
		{"Int(lowest)", func(w *parcel.Writer) { w.Int(math.MinInt64) }, append(times(9, 255), 1)},
		{"Raw(none)", func(w *parcel.Writer) { w.Raw([]byte{}) }, nil},
		{"Raw", func(w *parcel.Writer) { w.Raw([]byte{3, 0, 255}) }, []byte{3, 0, 255}},
		{"Text(none)", func(w *parcel.Writer) { w.Text(nil) }, []byte{0}},
		{"Text", func(w *parcel.Writer) { w.Text([]byte{3, 0, 255}) }, []byte{3, 3, 0, 255}},
		{"Text of 127", func(w *parcel.Writer) { w.Text(times(127, 9)) }, join([]byte{127}, times(127, 9))},
		{"Text of 128", func(w *parcel.Writer) { w.Text(times(128, 9)) }, join([]byte{128, 1}, times(128, 9))},
	} {
		t.Run(c.what, func(t *testing.T) { wantPiece(t, c.lay, c.want) })
	}
}

// wantPiece lays a piece behind a byte, once into a room that just holds it, once into one that is a byte short.
func wantPiece(t *testing.T, lay func(*parcel.Writer), piece []byte) {
	t.Helper()
	w := parcel.New(1 + len(piece))
	w.Byte(77)
	lay(w)
	want(t, "Len", w.Len(), 1+len(piece))
	wantDone(t, w, api.OK, append([]byte{77}, piece...)...)
	if len(piece) == 0 {
		return
	}
	v := parcel.New(len(piece))
	v.Byte(77)
	lay(v)
	want(t, "Len without room", v.Len(), 0)
	wantDone(t, v, api.ErrParRoom)
	v.Raw(nil)
	wantDone(t, v, api.ErrParRoom)
}

// P1.2: Fixed drops what stands above its bytes, and lays the lowest first.
func TestFixed(t *testing.T) {
	for _, n := range []uint64{0, 1, 255, 256, 0x8877665544332211, math.MaxUint64, 1 << 63, 0x123456} {
		var all [8]byte
		binary.LittleEndian.PutUint64(all[:], n)
		for size := 1; size <= 8; size++ {
			wantPiece(t, func(w *parcel.Writer) { w.Fixed(n, size) }, all[:size])
		}
	}
}

// P1.2: the bits of real numbers, the highest byte first; every NaN is the one.
func TestReal(t *testing.T) {
	nought := math.Copysign(0, -1)
	for _, x := range []float64{0, nought, 1, -1, 0.1, -2.5, math.Pi, math.MaxFloat64, math.SmallestNonzeroFloat64, math.Inf(1), math.Inf(-1)} {
		var p [8]byte
		binary.BigEndian.PutUint64(p[:], math.Float64bits(x))
		wantPiece(t, func(w *parcel.Writer) { w.Real(x) }, p[:])
	}
	wantPiece(t, func(w *parcel.Writer) { w.Real(0) }, times(8, 0))
	wantPiece(t, func(w *parcel.Writer) { w.Real(nought) }, append([]byte{128}, times(7, 0)...))
	for _, n := range []uint64{0x7FF8000000000000, 0x7FF8000000000001, 0xFFF8000000000000, 0x7FFFFFFFFFFFFFFF, math.MaxUint64, 0x7FF0000000000001, 0xFFF4000000000000} {
		wantPiece(t, func(w *parcel.Writer) { w.Real(math.Float64frombits(n)) }, []byte{127, 248, 0, 0, 0, 0, 0, 0})
	}
}

// P1.2: what is out of its bounds is refused, before the room is looked at; the fault stays.
func TestPiecesRefused(t *testing.T) {
	for _, room := range []int{0, 1, 100} {
		for _, n := range []int{-1, 256, 257, -255, 1 << 32, math.MaxInt, math.MinInt} {
			w := parcel.New(room)
			w.Byte(n)
			want(t, "Len", w.Len(), 0)
			wantDone(t, w, api.ErrArg)
		}
		for _, size := range []int{0, 9, -1, 10, 16, math.MaxInt, math.MinInt} {
			w := parcel.New(room)
			w.Fixed(1, size)
			want(t, "Len", w.Len(), 0)
			wantDone(t, w, api.ErrArg)
		}
	}
}

// P1.2, P1.3: a writer with a fault keeps that fault, whatever is called.
func TestWriterKeepsItsFault(t *testing.T) {
	faults := map[api.Errno]func(*parcel.Writer){
		api.ErrArg:     func(w *parcel.Writer) { w.Byte(256) },
		api.ErrParRoom: func(w *parcel.Writer) { w.Raw(times(51, 1)) },
		api.ErrParForm: func(w *parcel.Writer) {
			for range 17 {
				w.Open()
			}
		},
	}
	for fault, bring := range faults {
		for i, call := range pieces() {
			w := parcel.New(50)
			w.Byte(1)
			bring(w)
			wantDone(t, w, fault)
			for range 20 {
				call(w)
			}
			if _, err := w.Done(); err != fault || w.Len() != 0 {
				t.Fatalf("call %d behind the fault %v: %v, Len %d", i, fault, err, w.Len())
			}
		}
	}
}

// P1.2: a piece for which there is no room is not laid down in part, and no shorter one behind it is.
func TestNothingBehindTheRoom(t *testing.T) {
	w := parcel.New(4)
	w.Raw([]byte{1, 2})
	w.Text([]byte{3, 4}) // its length and its two bytes are one piece
	wantDone(t, w, api.ErrParRoom)
	w.Byte(3)
	wantDone(t, w, api.ErrParRoom)
	v := parcel.New(5)
	v.Raw([]byte{1, 2})
	v.Text([]byte{3, 4})
	wantDone(t, v, api.OK, 1, 2, 2, 3, 4)
}

// P1.3: frames, one behind the other and within one another.
func TestOpenClose(t *testing.T) {
	w := parcel.New(100)
	w.Byte(9)
	w.Open()
	w.Byte(1)
	w.Open()
	w.Raw([]byte{2, 3})
	w.Close()
	w.Open()
	w.Close()
	w.Byte(4)
	wantDone(t, w, api.ErrParRest)
	w.Close()
	w.Byte(8)
	wantDone(t, w, api.OK, 9, 6, 1, 2, 2, 3, 0, 4, 8)
	w.Close()
	wantDone(t, w, api.ErrArg)
	v := parcel.New(100)
	v.Close()
	wantDone(t, v, api.ErrArg)
}

// P1.3: a length takes as many bytes as its form has.
func TestLongFrames(t *testing.T) {
	for _, n := range []int{0, 1, 126, 127, 128, 129, 1<<14 - 1, 1 << 14, 1 << 15} {
		form := binary.AppendUvarint(nil, uint64(n))
		w := parcel.New(1 + len(form) + n)
		w.Byte(5)
		w.Open()
		w.Raw(times(n, 6))
		w.Close()
		wantDone(t, w, api.OK, join([]byte{5}, form, times(n, 6))...)
		v := parcel.New(len(form) + n)
		v.Byte(5)
		v.Open()
		v.Raw(times(n, 6))
		wantDone(t, v, api.ErrParRest)
		v.Close()
		want(t, "Len", v.Len(), 0)
		wantDone(t, v, api.ErrParRoom)
	}
}

// P1.3: the lengths of frames that are open take no room yet.
func TestOpenFramesTakeNoRoom(t *testing.T) {
	w := parcel.New(3)
	w.Open()
	w.Open()
	w.Open()
	w.Raw([]byte{1, 2})
	w.Close()
	want(t, "Len", w.Len(), 3)
	wantDone(t, w, api.ErrParRest)
	w.Close()
	wantDone(t, w, api.ErrParRoom)
}

// P1.3: sixteen frames are open at most; a frame that was closed makes place for another.
func TestDeepFrames(t *testing.T) {
	w := parcel.New(100)
	for range 16 {
		w.Open()
		wantDone(t, w, api.ErrParRest)
	}
	w.Close()
	w.Open()
	w.Byte(1)
	for range 16 {
		w.Close()
	}
	wantDone(t, w, api.OK, 17, 16, 15, 14, 13, 12, 11, 10, 9, 8, 7, 6, 5, 4, 3, 0, 1, 1)
	v := parcel.New(0)
	for range 16 {
		v.Open()
	}
	wantDone(t, v, api.ErrParRest)
	v.Open()
	wantDone(t, v, api.ErrParForm)
	v.Close()
	wantDone(t, v, api.ErrParForm)
}

// P1.4: Len and Done on the way; ErrParRest is no fault of a writer.
func TestLenDone(t *testing.T) {
	w := parcel.New(10)
	wantDone(t, w, api.OK)
	w.Num(300)
	want(t, "Len", w.Len(), 2)
	wantDone(t, w, api.OK, 172, 2)
	w.Open()
	want(t, "Len behind Open", w.Len(), 2)
	wantDone(t, w, api.ErrParRest)
	w.Raw([]byte{1, 2, 3})
	want(t, "Len within a frame", w.Len(), 5)
	wantDone(t, w, api.ErrParRest)
	w.Close()
	want(t, "Len behind Close", w.Len(), 6)
	wantDone(t, w, api.OK, 172, 2, 3, 1, 2, 3)
	w.Byte(7)
	wantDone(t, w, api.OK, 172, 2, 3, 1, 2, 3, 7)
	w.Open()
	w.Byte(256)
	want(t, "Len of a fault", w.Len(), 0)
	wantDone(t, w, api.ErrArg) // the fault is named ahead of the open frame
}

// P1.8: no writer.
func TestNilWriter(t *testing.T) {
	var w *parcel.Writer
	for _, call := range pieces() {
		call(w)
	}
	want(t, "Len", w.Len(), 0)
	wantDone(t, w, api.ErrNil)
}
