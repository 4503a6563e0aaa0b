package parcel_test

import (
	"math"
	"testing"

	"haulage/api"
	"haulage/parcel"
)

// The chapter's table "Examples", row by row: the writers'.
func TestWriterExamples(t *testing.T) {
	w := parcel.New(9)
	w.Num(300)
	w.Byte(7)
	want(t, "Len", w.Len(), 3)
	wantDone(t, w, api.OK, 172, 2, 7)

	w.Open()
	w.Text([]byte{1, 2})
	w.Close()
	wantDone(t, w, api.OK, 172, 2, 7, 3, 2, 1, 2)

	w.Open()
	wantDone(t, w, api.ErrParRest)
	w.Byte(9)
	w.Byte(9)
	w.Close()
	wantDone(t, w, api.ErrParRoom)
	w.Byte(1)
	wantDone(t, w, api.ErrParRoom)

	w = parcel.New(99)
	w.Fixed(0x123456, 2)
	w.Int(-3)
	w.Int(64)
	wantDone(t, w, api.OK, 86, 52, 5, 128, 1)

	w = parcel.New(99)
	w.Real(1)
	w.Real(math.NaN())
	wantDone(t, w, api.OK, 63, 240, 0, 0, 0, 0, 0, 0, 127, 248, 0, 0, 0, 0, 0, 0)

	w = parcel.New(99)
	w.Byte(256)
	w.Byte(1)
	wantDone(t, w, api.ErrArg)

	w = parcel.New(-1)
	w.Raw(nil)
	wantDone(t, w, api.OK)
	w.Open()
	w.Close()
	wantDone(t, w, api.ErrParRoom)
}

// The chapter's table "Examples", row by row: the readers'.
func TestReaderExamples(t *testing.T) {
	r := parcel.Read([]byte{172, 2, 7})
	want(t, "Num", r.Num(), 300)
	want(t, "Byte", r.Byte(), 7)
	want(t, "Rest", r.Rest(), 0)
	want(t, "Done", r.Done(), api.OK)
	want(t, "Byte", r.Byte(), 0)
	want(t, "Rest", r.Rest(), 0)
	want(t, "Done", r.Done(), api.ErrParShort)

	r = parcel.Read([]byte{2, 1, 2, 9})
	want(t, "Enter", r.Enter(), 2)
	want(t, "Byte", r.Byte(), 1)
	want(t, "Rest", r.Rest(), 1)
	wantBytes(t, "Raw(2)", r.Raw(2))
	want(t, "Done", r.Done(), api.ErrParShort)

	r = parcel.Read([]byte{2, 1, 2, 9})
	want(t, "Enter", r.Enter(), 2)
	wantBytes(t, "Raw(2)", r.Raw(2), 1, 2)
	want(t, "Done", r.Done(), api.ErrParRest)
	r.Leave()
	want(t, "Byte", r.Byte(), 9)
	want(t, "Done", r.Done(), api.OK)

	r = parcel.Read([]byte{2, 1, 2, 9})
	want(t, "Enter", r.Enter(), 2)
	r.Leave()
	want(t, "Done", r.Done(), api.ErrParRest)
	r = parcel.Read([]byte{3, 1, 2})
	want(t, "Enter", r.Enter(), 0)
	want(t, "Done", r.Done(), api.ErrParShort)

	r = parcel.Read([]byte{128, 0})
	want(t, "Num", r.Num(), 0)
	want(t, "Done", r.Done(), api.ErrParForm)
	r = parcel.Read([]byte{128})
	want(t, "Num", r.Num(), 0)
	want(t, "Done", r.Done(), api.ErrParShort)

	r = parcel.Read(append(times(9, 255), 1))
	want(t, "Num", r.Num(), math.MaxUint64)
	r = parcel.Read(append(times(9, 255), 2))
	want(t, "Num", r.Num(), 0)
	want(t, "Done", r.Done(), api.ErrParForm)

	r = parcel.Read([]byte{127, 240, 0, 0, 0, 0, 0, 1})
	want(t, "Real", r.Real(), 0)
	want(t, "Done", r.Done(), api.ErrParForm)
}
