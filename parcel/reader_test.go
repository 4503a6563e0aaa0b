package parcel_test

import (
	"encoding/binary"
	"math"
	"testing"

	"haulage/api"
	"haulage/parcel"
)

// P1.5: at the place 0, in no frame.
func TestRead(t *testing.T) {
	for _, n := range []int{0, 1, 2, 1000} {
		r := parcel.Read(times(n, 3))
		end := api.OK
		if n > 0 {
			end = api.ErrParRest
		}
		wantEnd(t, r, n, end)
		wantBytes(t, "Raw", r.Raw(n), times(n, 3)...)
		wantEnd(t, r, 0, api.OK)
	}
	r := parcel.Read(nil)
	r.Leave()
	wantEnd(t, r, 0, api.ErrArg)
}

// P1.6: Byte.
func TestTakeByte(t *testing.T) {
	r := parcel.Read([]byte{0, 127, 128, 255})
	for i, b := range []int{0, 127, 128, 255} {
		want(t, "Byte", r.Byte(), b)
		want(t, "Rest", r.Rest(), 3-i)
	}
	wantEnd(t, r, 0, api.OK)
	want(t, "Byte beyond the end", r.Byte(), 0)
	wantEnd(t, r, 0, api.ErrParShort)
}

// P1.6: Fixed of every size, with just enough bytes, and with one too few.
func TestTakeFixed(t *testing.T) {
	all := []byte{0x11, 0x22, 0x33, 0x44, 0x55, 0x66, 0x77, 0x88}
	for size := 1; size <= 8; size++ {
		var whole [8]byte
		copy(whole[:], all[:size])
		r := parcel.Read(append(all[:size:size], 99))
		want(t, "Fixed", r.Fixed(size), binary.LittleEndian.Uint64(whole[:]))
		wantEnd(t, r, 1, api.ErrParRest)
		s := parcel.Read(all[:size-1])
		want(t, "Fixed cut off", s.Fixed(size), 0)
		wantEnd(t, s, 0, api.ErrParShort)
	}
	want(t, "the greatest", parcel.Read(times(8, 255)).Fixed(8), math.MaxUint64)
	for _, size := range []int{0, 9, -1, 16, math.MaxInt, math.MinInt} {
		for _, p := range [][]byte{nil, times(99, 1)} {
			r := parcel.Read(p)
			want(t, "Fixed of no size", r.Fixed(size), 0)
			wantEnd(t, r, 0, api.ErrArg)
		}
	}
}

// formRow is bytes, and what Num says of them: the number and how many bytes it takes, or its refusal.
type formRow struct {
	p     []byte
	n     uint64
	taken int
	err   api.Errno
}

func forms() []formRow {
	long := times(9, 255)
	return []formRow{
		{[]byte{0}, 0, 1, api.OK},
		{[]byte{0, 0}, 0, 1, api.OK},
		{[]byte{1, 128}, 1, 1, api.OK},
		{[]byte{127}, 127, 1, api.OK},
		{[]byte{128, 1}, 128, 2, api.OK},
		{[]byte{255, 127, 5}, 1<<14 - 1, 2, api.OK},
		{[]byte{128, 128, 1}, 1 << 14, 3, api.OK},
		{append(times(8, 255), 127), 1<<63 - 1, 9, api.OK},
		{append(times(9, 128), 1), 1 << 63, 10, api.OK},
		{append(long[:9:9], 1), math.MaxUint64, 10, api.OK},
		{nil, 0, 0, api.ErrParShort},
		{[]byte{128}, 0, 0, api.ErrParShort},
		{[]byte{255, 255}, 0, 0, api.ErrParShort},
		{long[:8], 0, 0, api.ErrParShort},
		{long, 0, 0, api.ErrParShort},
		{[]byte{128, 0}, 0, 0, api.ErrParForm},
		{[]byte{255, 0}, 0, 0, api.ErrParForm},
		{[]byte{128, 128, 0, 1}, 0, 0, api.ErrParForm},
		{append(times(8, 128), 0), 0, 0, api.ErrParForm},
		{append(long[:9:9], 0), 0, 0, api.ErrParForm},
		{append(long[:9:9], 2), 0, 0, api.ErrParForm},
		{append(long[:9:9], 127), 0, 0, api.ErrParForm},
		{append(long[:9:9], 128), 0, 0, api.ErrParForm},
		{append(long[:9:9], 129), 0, 0, api.ErrParForm},
		{append(long[:9:9], 255), 0, 0, api.ErrParForm},
		{append(long[:9:9], 128, 1), 0, 0, api.ErrParForm},
	}
}

// P1.6: Num, and Int by it.
func TestTakeNum(t *testing.T) {
	for _, c := range forms() {
		r, s := parcel.Read(c.p), parcel.Read(c.p)
		want(t, "Num", r.Num(), c.n)
		i := int(c.n / 2)
		if c.n%2 == 1 {
			i = -i - 1
		}
		want(t, "Int", s.Int(), i)
		rest, err := len(c.p)-c.taken, c.err
		if err != api.OK {
			rest = 0
		} else if rest > 0 {
			err = api.ErrParRest
		}
		wantEnd(t, r, rest, err)
		wantEnd(t, s, rest, err)
	}
}

// P1.6: the length of a Text and of a frame is a number with Num's refusals.
func TestLengthsAreForms(t *testing.T) {
	for _, c := range forms() {
		if c.err == api.OK {
			continue
		}
		r, s := parcel.Read(c.p), parcel.Read(c.p)
		wantBytes(t, "Text", r.Text(math.MaxInt))
		wantEnd(t, r, 0, c.err)
		want(t, "Enter", s.Enter(), 0)
		wantEnd(t, s, 0, c.err)
	}
}

// P1.6: the lowest and the greatest int.
func TestTakeInt(t *testing.T) {
	want(t, "lowest", parcel.Read(append(times(9, 255), 1)).Int(), math.MinInt64)
	want(t, "greatest", parcel.Read(join([]byte{254}, times(8, 255), []byte{1})).Int(), math.MaxInt64)
	for n, i := range map[byte]int{0: 0, 1: -1, 2: 1, 3: -2, 5: -3, 126: 63, 127: -64} {
		want(t, "Int", parcel.Read([]byte{n}).Int(), i)
	}
}

// P1.6: Real, with noughts of both signs, the one NaN, and other ones.
func TestTakeReal(t *testing.T) {
	for _, n := range []uint64{0, 1 << 63, 0x3FF0000000000000, 0xBFF0000000000000, 0x7FF0000000000000, 0xFFF0000000000000, 1, 0x7FEFFFFFFFFFFFFF, 0x7FF8000000000000, 0x0102030405060708} {
		r := parcel.Read(append(binary.BigEndian.AppendUint64(nil, n), 7))
		want(t, "bits of Real", math.Float64bits(r.Real()), n)
		wantEnd(t, r, 1, api.ErrParRest)
	}
	for _, n := range []uint64{0x7FF0000000000001, 0x7FF7FFFFFFFFFFFF, 0x7FF8000000000001, 0x7FFFFFFFFFFFFFFF, 0xFFF8000000000000, 0xFFF0000000000001, math.MaxUint64} {
		p := binary.BigEndian.AppendUint64(nil, n)
		r := parcel.Read(append(p, 7))
		want(t, "bits of Real of another NaN", math.Float64bits(r.Real()), 0)
		wantEnd(t, r, 0, api.ErrParForm)
		s := parcel.Read(p[:7])
		want(t, "bits of Real cut off", math.Float64bits(s.Real()), 0)
		wantEnd(t, s, 0, api.ErrParShort)
	}
	for n := range 8 {
		r := parcel.Read(times(n, 1))
		want(t, "Real cut off", r.Real(), 0)
		wantEnd(t, r, 0, api.ErrParShort)
	}
}

// P1.6: Raw.
func TestTakeRaw(t *testing.T) {
	r := parcel.Read([]byte{1, 2, 3})
	wantBytes(t, "Raw(0)", r.Raw(0))
	wantBytes(t, "Raw(2)", r.Raw(2), 1, 2)
	wantEnd(t, r, 1, api.ErrParRest)
	wantBytes(t, "Raw(1)", r.Raw(1), 3)
	wantBytes(t, "Raw(0) at the end", r.Raw(0))
	wantEnd(t, r, 0, api.OK)
	for n, err := range map[int]api.Errno{4: api.ErrParShort, 5: api.ErrParShort, 8: api.ErrParShort, 1 << 40: api.ErrParShort, math.MaxInt: api.ErrParShort, -1: api.ErrArg, math.MinInt: api.ErrArg} {
		s := parcel.Read([]byte{1, 2, 3})
		wantBytes(t, "Raw refused", s.Raw(n))
		wantEnd(t, s, 0, err)
	}
	s := parcel.Read(nil)
	wantBytes(t, "Raw(-1) of nothing", s.Raw(-1))
	wantEnd(t, s, 0, api.ErrArg)
}

// P1.6: Text, whose length is held against most ahead of what is left.
func TestTakeText(t *testing.T) {
	huge := append(times(9, 255), 1)
	for _, c := range []struct {
		p    []byte
		most int
		want []byte
		rest int
		err  api.Errno
	}{
		{[]byte{0}, 0, nil, 0, api.OK},
		{[]byte{0}, -1, nil, 0, api.OK},
		{[]byte{0, 5}, math.MinInt, nil, 1, api.ErrParRest},
		{[]byte{2, 8, 9}, 2, []byte{8, 9}, 0, api.OK},
		{[]byte{2, 8, 9, 7}, 3, []byte{8, 9}, 1, api.ErrParRest},
		{[]byte{2, 8, 9}, math.MaxInt, []byte{8, 9}, 0, api.OK},
		{[]byte{2, 8, 9}, 1, nil, 0, api.ErrParForm},
		{[]byte{1, 8}, 0, nil, 0, api.ErrParForm},
		{[]byte{1, 8}, -1, nil, 0, api.ErrParForm},
		{[]byte{1, 8}, math.MinInt, nil, 0, api.ErrParForm},
		{[]byte{3, 8, 9}, 2, nil, 0, api.ErrParForm},
		{[]byte{3, 8, 9}, 3, nil, 0, api.ErrParShort},
		{[]byte{3}, 3, nil, 0, api.ErrParShort},
		{huge, math.MaxInt, nil, 0, api.ErrParForm},
		{append(times(9, 128), 1), math.MaxInt, nil, 0, api.ErrParForm},
		{append(times(8, 255), 127), math.MaxInt, nil, 0, api.ErrParShort},
		{append(times(8, 255), 127), math.MaxInt - 1, nil, 0, api.ErrParForm},
	} {
		r := parcel.Read(c.p)
		wantBytes(t, "Text", r.Text(c.most), c.want...)
		wantEnd(t, r, c.rest, c.err)
	}
	long := join([]byte{128, 1}, times(128, 4))
	wantBytes(t, "Text of 128", parcel.Read(long).Text(128), times(128, 4)...)
}

// P1.6: frames.
func TestEnterLeave(t *testing.T) {
	r := parcel.Read([]byte{9, 6, 1, 2, 2, 3, 0, 4, 8})
	want(t, "Byte", r.Byte(), 9)
	want(t, "Enter", r.Enter(), 6)
	wantEnd(t, r, 6, api.ErrParRest)
	want(t, "Byte", r.Byte(), 1)
	want(t, "Enter", r.Enter(), 2)
	wantEnd(t, r, 2, api.ErrParRest)
	wantBytes(t, "Raw", r.Raw(2), 2, 3)
	wantEnd(t, r, 0, api.ErrParRest) // nothing left, but within frames: no fault
	r.Leave()
	wantEnd(t, r, 2, api.ErrParRest)
	want(t, "Enter of nothing", r.Enter(), 0)
	wantEnd(t, r, 0, api.ErrParRest)
	r.Leave()
	want(t, "Byte", r.Byte(), 4)
	r.Leave()
	wantEnd(t, r, 1, api.ErrParRest)
	want(t, "Byte", r.Byte(), 8)
	wantEnd(t, r, 0, api.OK)
	r.Leave()
	wantEnd(t, r, 0, api.ErrArg)
}

// P1.6: a frame longer than what is left, of the bytes or of the frame around it.
func TestEnterRefused(t *testing.T) {
	for _, p := range [][]byte{{1}, {3, 1, 2}, {255, 1, 2}, join(times(9, 255), []byte{1, 2, 3}), join(times(9, 128), []byte{1})} {
		r := parcel.Read(p)
		want(t, "Enter", r.Enter(), 0)
		wantEnd(t, r, 0, api.ErrParShort)
	}
	r := parcel.Read([]byte{2, 2, 1, 1, 1})
	want(t, "Enter", r.Enter(), 2)
	want(t, "Enter of more than the frame", r.Enter(), 0)
	wantEnd(t, r, 0, api.ErrParShort)
}

// P1.6: Leave looks for a frame first, then at what is left; here ErrParRest is a fault.
func TestLeaveRefused(t *testing.T) {
	r := parcel.Read([]byte{1, 2})
	r.Leave()
	wantEnd(t, r, 0, api.ErrArg)
	s := parcel.Read([]byte{2, 1, 2, 9})
	s.Enter()
	s.Byte()
	wantEnd(t, s, 1, api.ErrParRest)
	s.Leave()
	wantEnd(t, s, 0, api.ErrParRest)
	want(t, "Byte behind the fault", s.Byte(), 0)
	wantEnd(t, s, 0, api.ErrParRest)
}

// P1.6: sixteen frames, and not one more, whatever its length would be; a frame that was left makes place.
func TestDeepReading(t *testing.T) {
	nest := []byte{18, 17, 16, 15, 14, 13, 12, 11, 10, 9, 8, 7, 6, 5, 4, 3, 0, 1, 0}
	enter := func(p []byte, n int) *parcel.Reader {
		r := parcel.Read(p)
		for range n {
			r.Enter()
		}
		return r
	}
	r := enter(nest, 16)
	wantEnd(t, r, 3, api.ErrParRest)
	want(t, "the seventeenth", r.Enter(), 0)
	wantEnd(t, r, 0, api.ErrParForm)
	s := enter(nest, 15)
	wantEnd(t, s, 4, api.ErrParRest)
	want(t, "the sixteenth", s.Enter(), 3)
	wantBytes(t, "Raw", s.Raw(3), 0, 1, 0)
	s.Leave()
	wantEnd(t, s, 0, api.ErrParRest)
	v := enter(nest, 16)
	v.Raw(3)
	want(t, "the seventeenth of nothing", v.Enter(), 0)
	wantEnd(t, v, 0, api.ErrParForm)
	w := enter([]byte{17, 16, 15, 14, 13, 12, 11, 10, 9, 8, 7, 6, 5, 4, 3, 0, 1, 7}, 16)
	w.Leave()
	want(t, "another sixteenth", w.Enter(), 1)
	want(t, "Byte", w.Byte(), 7)
	for range 16 {
		w.Leave()
	}
	wantEnd(t, w, 0, api.OK)
}

// P1.6, P1.7: a reader with a fault answers zero, and keeps that fault.
func TestReaderKeepsItsFault(t *testing.T) {
	faults := map[api.Errno]func(*parcel.Reader){
		api.ErrArg:      func(r *parcel.Reader) { r.Raw(-1) },
		api.ErrParShort: func(r *parcel.Reader) { r.Raw(99) },
		api.ErrParForm:  func(r *parcel.Reader) { r.Text(0) },
		api.ErrParRest:  func(r *parcel.Reader) { r.Enter(); r.Leave() },
	}
	for fault, bring := range faults {
		for i, call := range takings() {
			r := parcel.Read(times(40, 1))
			bring(r)
			wantEnd(t, r, 0, fault)
			if !call(r) || !call(r) {
				t.Fatalf("call %d behind the fault %v: not zero", i, fault)
			}
			wantEnd(t, r, 0, fault)
		}
	}
}

// P1.7: ErrParRest of Done is no fault: the reader goes on.
func TestDoneIsNoFault(t *testing.T) {
	r := parcel.Read([]byte{1, 2})
	wantEnd(t, r, 2, api.ErrParRest)
	want(t, "Byte", r.Byte(), 1)
	wantEnd(t, r, 1, api.ErrParRest)
	want(t, "Byte", r.Byte(), 2)
	wantEnd(t, r, 0, api.OK)
	s := parcel.Read([]byte{0})
	want(t, "Enter", s.Enter(), 0)
	wantEnd(t, s, 0, api.ErrParRest)
	s.Leave()
	wantEnd(t, s, 0, api.OK)
}

// P1.8: no reader.
func TestNilReader(t *testing.T) {
	var r *parcel.Reader
	for i, call := range takings() {
		if !call(r) {
			t.Fatalf("call %d of no reader: not zero", i)
		}
	}
	wantEnd(t, r, 0, api.ErrNil)
}
