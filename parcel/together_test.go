package parcel_test

import (
	"bytes"
	"encoding/binary"
	"math"
	"math/rand"
	"slices"
	"testing"

	"haulage/api"
	"haulage/parcel"
)

// rightRow is a row of right calls whose Opens and Closes belong together; of each Open it knows how many bytes its frame has.
func rightRow(d *rand.Rand, length int) []step {
	var row []step
	deep := 0
	lean := d.Intn(3) // some rows go down as deep as they may
	for range length {
		s := someStep(d)
		s.size = 1 + d.Intn(8)
		if s.call == callByte {
			s.i = d.Intn(256)
		}
		if lean == 0 && d.Intn(2) == 0 {
			s.call = callOpen
		}
		if s.call == callOpen && deep == api.MaxDeep || s.call == callClose && deep == 0 {
			continue
		}
		if s.call == callOpen {
			deep++
		}
		if s.call == callClose {
			deep--
		}
		row = append(row, s)
	}
	for range deep {
		row = append(row, step{call: callClose})
	}
	return row
}

// frameSizes asks the model for the size of each frame, in the order of their Opens.
func frameSizes(row []step) []int {
	m := &modelWriter{room: math.MaxInt, heaps: [][]byte{nil}}
	var sizes, open []int
	for _, s := range row {
		switch s.call {
		case callOpen:
			open = append(open, len(sizes))
			sizes = append(sizes, 0)
		case callClose:
			sizes[open[len(open)-1]] = len(m.heaps[len(m.heaps)-1])
			open = open[:len(open)-1]
		}
		m.do(s)
	}
	return sizes
}

// back is what a reader must answer to a step of a right row.
func back(s step, sizes []int) step {
	out := step{call: s.call, size: s.size}
	switch s.call {
	case callByte, callInt:
		out.i = s.i
	case callFixed:
		out.n = s.n & (math.MaxUint64 >> (64 - 8*s.size))
	case callNum:
		out.n = s.n
	case callReal:
		out.x = s.x
		if s.x != s.x {
			out.x = math.Float64frombits(0x7FF8000000000000)
		}
	case callRaw, callText:
		out.p = s.p
	case callOpen:
		out.i = sizes[0]
	}
	return out
}

// P1.9: there and back.
func TestThereAndBack(t *testing.T) {
	d := rand.New(rand.NewSource(3))
	for turn := range 5000 {
		row := rightRow(d, 1+d.Intn(60))
		w := parcel.New(1 << 20)
		for _, s := range row {
			s.write(w)
		}
		p, err := w.Done()
		if err != api.OK || len(p) != w.Len() {
			t.Fatalf("turn %d: %v, %d bytes, Len %d", turn, err, len(p), w.Len())
		}
		sizes := frameSizes(row)
		r := parcel.Read(p)
		for i, s := range row {
			switch s.call {
			case callRaw:
				s.size = len(s.p)
			case callText:
				s.size = len(s.p) + d.Intn(2)*d.Intn(9)
			}
			wanted := back(s, sizes)
			if s.call == callOpen {
				sizes = sizes[1:]
			}
			if got := s.read(r); !got.same(wanted) {
				t.Fatalf("turn %d, step %d: %+v, want %+v", turn, i, got, wanted)
			}
		}
		wantEnd(t, r, 0, api.OK)
	}
}

// P1.9: numbers of all kinds one by one, at all their edges.
func TestNumbersThereAndBack(t *testing.T) {
	for k := range 64 {
		for _, n := range []uint64{1<<k - 1, 1 << k, 1<<k + 1, ^uint64(1 << k)} {
			w := parcel.New(99)
			w.Num(n)
			w.Int(int(n))
			w.Int(-int(n))
			w.Fixed(n, 8)
			p, _ := w.Done()
			r := parcel.Read(p)
			want(t, "Num", r.Num(), n)
			want(t, "Int", r.Int(), int(n))
			want(t, "Int below", r.Int(), -int(n))
			want(t, "Fixed", r.Fixed(8), n)
			wantEnd(t, r, 0, api.OK)
		}
	}
}

// taking makes the row's calls on a reader of p, and answers it with what they took.
func taking(p []byte, row []step) (*parcel.Reader, []step) {
	r := parcel.Read(p)
	var taken []step
	for _, s := range row {
		taken = append(taken, s.read(r))
	}
	return r, taken
}

// faultlessRow is a row of calls that the reader itself takes without a fault out of p, with all frames left, and how many frames it has.
func faultlessRow(d *rand.Rand, p []byte) ([]step, int) {
	var row []step
	deep, frames := 0, 0
	for range 16 {
		s := someStep(d)
		before, _ := taking(p, row)
		if s.call == callClose && (deep == 0 || before.Rest() > 0) {
			continue
		}
		after, _ := taking(p, append(row[:len(row):len(row)], s))
		if err := after.Done(); err != api.OK && err != api.ErrParRest {
			continue
		}
		row = append(row, s)
		switch s.call {
		case callOpen:
			deep++
			frames++
		case callClose:
			deep--
		}
	}
	for range deep {
		r, _ := taking(p, row)
		row = append(row, step{call: callRaw, size: r.Rest()}, step{call: callClose})
	}
	return row, frames
}

// P1.10: what a reader takes without a fault has that form alone.
func TestOneForm(t *testing.T) {
	d := rand.New(rand.NewSource(4))
	frames := 0
	for turn := range 20000 {
		p := someBytes(d, 24)
		row, more := faultlessRow(d, p)
		frames += more
		r, taken := taking(p, row)
		w := parcel.New(len(p))
		for _, s := range taken {
			s.write(w)
		}
		if q, err := w.Done(); err != api.OK || !bytes.Equal(q, p[:len(p)-r.Rest()]) {
			t.Fatalf("turn %d: out of %v all but %d were taken, %v is laid down (%v)", turn, p, r.Rest(), q, err)
		}
	}
	if frames < 2000 {
		t.Fatalf("only %d frames", frames)
	}
}

// formBy is the form that a writer lays down.
func formBy(t *testing.T, n uint64) []byte {
	t.Helper()
	w := parcel.New(10)
	w.Num(n)
	p, err := w.Done()
	want(t, "Done", err, api.OK)
	return p
}

// P1.11: how long forms are.
func TestFormLengths(t *testing.T) {
	want(t, "length of 0's form", len(formBy(t, 0)), 1)
	for k := 1; k <= 9; k++ {
		edge := uint64(1) << (7 * k)
		for _, n := range []uint64{edge - 1, edge - 2, edge / 2} {
			want(t, "length below the edge", len(formBy(t, n)), k)
		}
		for _, n := range []uint64{edge, edge + 1, edge + edge/2} {
			want(t, "length from the edge on", len(formBy(t, n)), k+1)
		}
	}
	want(t, "length of the greatest", len(formBy(t, math.MaxUint64)), 10)
}

// P1.11: no form begins another. (In the order of bytes a form that began others would stand right ahead of one of them.)
func TestFormsApart(t *testing.T) {
	var numbers []uint64
	for n := range uint64(1 << 15) {
		numbers = append(numbers, n)
	}
	for k := 15; k < 64; k++ {
		for i := range uint64(9) {
			numbers = append(numbers, 1<<k-4+i)
		}
	}
	slices.Sort(numbers)
	numbers = slices.Compact(numbers)
	var all [][]byte
	for _, n := range numbers {
		all = append(all, formBy(t, n))
	}
	slices.SortFunc(all, bytes.Compare)
	for i := range len(all) - 1 {
		if bytes.HasPrefix(all[i+1], all[i]) {
			t.Fatalf("%v begins %v", all[i], all[i+1])
		}
	}
}

// P1.12: what stands behind a frame is not seen within it.
func TestFrameIsShut(t *testing.T) {
	d := rand.New(rand.NewSource(5))
	for turn := range 20000 {
		frame := someBytes(d, 20)
		head := binary.AppendUvarint(nil, uint64(len(frame)))
		one := parcel.Read(join(head, frame, someBytes(d, 20)))
		other := parcel.Read(join(head, frame, someBytes(d, 20)))
		alone := parcel.Read(join(head, frame))
		want(t, "Enter", one.Enter(), len(frame))
		want(t, "Enter", other.Enter(), len(frame))
		want(t, "Enter", alone.Enter(), len(frame))
		deep := 1
		for range 20 {
			s := someStep(d)
			switch s.call {
			case callOpen:
				deep++
			case callClose:
				deep--
			}
			if deep == 0 {
				break
			}
			a, b, c := s.read(one), s.read(other), s.read(alone)
			if !a.same(b) || !a.same(c) || one.Rest() != other.Rest() || one.Rest() != alone.Rest() || one.Done() != other.Done() || one.Done() != alone.Done() {
				t.Fatalf("turn %d, frame %v, %+v: %+v, %+v, %+v", turn, frame, s, a, b, c)
			}
		}
	}
}

// withSpare is p with spare room behind it that is full of marks.
func withSpare(p []byte) []byte {
	q := append(append([]byte(nil), p...), times(32, 0xEE)...)
	return q[:len(p)]
}

// spoil overwrites a list and the spare room behind it.
func spoil(p []byte) {
	p = p[:cap(p)]
	for i := range p {
		p[i] = 0xDD
	}
}

// P1.13: what is handed to a writer is neither changed nor kept.
func TestWriterKeepsNothing(t *testing.T) {
	raw, text := withSpare([]byte{1, 2}), withSpare([]byte{3, 4})
	w := parcel.New(100)
	w.Raw(raw)
	w.Open()
	w.Text(text)
	w.Close()
	w.Raw(raw[:0])
	w.Byte(5)
	wantBytes(t, "Raw's bytes", raw[:cap(raw)][:34], append([]byte{1, 2}, times(32, 0xEE)...)...)
	wantBytes(t, "Text's bytes", text[:cap(text)][:34], append([]byte{3, 4}, times(32, 0xEE)...)...)
	spoil(raw)
	spoil(text)
	wantDone(t, w, api.OK, 1, 2, 3, 2, 3, 4, 5)
	v := parcel.New(100) // of a first piece the bytes might be taken as they are
	first := withSpare([]byte{7, 8})
	v.Raw(first)
	spoil(first)
	v.Byte(9)
	wantDone(t, v, api.OK, 7, 8, 9)
	wantBytes(t, "spare room", first[:cap(first)], times(cap(first), 0xDD)...)
}

// P1.13: what a writer answers is new memory each time.
func TestDoneIsNewMemory(t *testing.T) {
	w := parcel.New(100)
	w.Raw([]byte{1, 2, 3})
	one, _ := w.Done()
	other, _ := w.Done()
	spoil(one)
	wantBytes(t, "another answer", other, 1, 2, 3)
	wantDone(t, w, api.OK, 1, 2, 3)
	kept, _ := w.Done()
	spare := bytes.Clone(kept[:cap(kept)])
	w.Open()
	w.Raw([]byte{4, 5})
	w.Close()
	wantBytes(t, "an answer behind further pieces", kept[:cap(kept)], spare...)
	spoil(kept)
	wantDone(t, w, api.OK, 1, 2, 3, 2, 4, 5)
}

// P1.13: what is handed to a reader is neither changed nor kept.
func TestReaderKeepsNothing(t *testing.T) {
	p := withSpare([]byte{1, 2, 3, 4, 5})
	before := bytes.Clone(p[:cap(p)])
	r := parcel.Read(p)
	s := parcel.Read(p)
	want(t, "Byte", r.Byte(), 1)
	wantBytes(t, "Text", r.Text(2), 3, 4)
	wantBytes(t, "the bytes", p[:cap(p)], before...)
	spoil(p)
	want(t, "Byte", r.Byte(), 5)
	wantEnd(t, r, 0, api.OK)
	wantEnd(t, s, 5, api.ErrParRest)
	wantBytes(t, "another reader's Raw", s.Raw(5), 1, 2, 3, 4, 5)
}

// P1.13: what a reader answers is new memory, the spare room behind it too.
func TestTakenIsNewMemory(t *testing.T) {
	p := []byte{1, 2, 2, 3, 4, 0, 5, 6}
	r := parcel.Read(p)
	raw := r.Raw(2)
	spoil(raw)
	text := r.Text(9)
	wantBytes(t, "Text", text, 3, 4)
	spoil(text)
	spoil(r.Text(9))
	spoil(r.Raw(0))
	wantBytes(t, "Raw", r.Raw(1), 5)
	want(t, "Byte", r.Byte(), 6)
	wantEnd(t, r, 0, api.OK)
	wantBytes(t, "the bytes", p, 1, 2, 2, 3, 4, 0, 5, 6)
}

// P1.13: two writers, and two readers, know nothing of each other.
func TestApart(t *testing.T) {
	v, w := parcel.New(2), parcel.New(3)
	v.Byte(1)
	w.Byte(2)
	v.Open()
	w.Raw([]byte{3, 4})
	wantDone(t, v, api.ErrParRest)
	wantDone(t, w, api.OK, 2, 3, 4)
	w.Byte(5)
	wantDone(t, w, api.ErrParRoom)
	v.Close()
	wantDone(t, v, api.OK, 1, 0)
	p := []byte{1, 2}
	r, s := parcel.Read(p), parcel.Read(p)
	want(t, "Fixed", r.Fixed(9), 0)
	wantEnd(t, r, 0, api.ErrArg)
	wantEnd(t, s, 2, api.ErrParRest)
	want(t, "Byte", s.Byte(), 1)
	want(t, "Enter", parcel.Read(p).Enter(), 1)
	wantEnd(t, s, 1, api.ErrParRest)
}
