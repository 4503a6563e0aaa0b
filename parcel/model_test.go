package parcel_test

// The writer and the reader once more, told as the chapter tells them and by other means (a heap of frames, counting ahead, the library's own forms), and held against the package over many rows of calls.

import (
	"encoding/binary"
	"fmt"
	"math"
	"math/rand"
	"slices"
	"testing"

	"haulage/api"
	"haulage/parcel"
)

// The calls of a writer, and those of a reader that belong to them.
const (
	callByte = iota
	callFixed
	callNum
	callInt
	callReal
	callRaw
	callText
	callOpen
	callClose
	calls
)

// A step is a call with its arguments, as far as it has them: for a writer what is laid down, for a reader what was taken or how much is asked for.
type step struct {
	call int
	i    int
	n    uint64
	x    float64
	p    []byte
	size int
}

func (s step) write(w *parcel.Writer) {
	switch s.call {
	case callByte:
		w.Byte(s.i)
	case callFixed:
		w.Fixed(s.n, s.size)
	case callNum:
		w.Num(s.n)
	case callInt:
		w.Int(s.i)
	case callReal:
		w.Real(s.x)
	case callRaw:
		w.Raw(s.p)
	case callText:
		w.Text(s.p)
	case callOpen:
		w.Open()
	case callClose:
		w.Close()
	}
}

// read makes the reader's call, and answers the step with what was taken in the place of what was asked.
func (s step) read(r *parcel.Reader) step {
	got := step{call: s.call, size: s.size}
	switch s.call {
	case callByte:
		got.i = r.Byte()
	case callFixed:
		got.n = r.Fixed(s.size)
	case callNum:
		got.n = r.Num()
	case callInt:
		got.i = r.Int()
	case callReal:
		got.x = r.Real()
	case callRaw:
		got.p = r.Raw(s.size)
	case callText:
		got.p = r.Text(s.size)
	case callOpen:
		got.i = r.Enter()
	case callClose:
		r.Leave()
	}
	return got
}

// same compares two answers, real numbers by their bits.
func (s step) same(o step) bool {
	return s.call == o.call && s.i == o.i && s.n == o.n && s.size == o.size &&
		math.Float64bits(s.x) == math.Float64bits(o.x) && slices.Equal(s.p, o.p)
}

// modelWriter has a heap of bytes for each open frame, the outermost first, and the bytes outside of them ahead.
type modelWriter struct {
	room  int
	heaps [][]byte
	fault api.Errno
}

func (m *modelWriter) size() int {
	n := 0
	for _, h := range m.heaps {
		n += len(h)
	}
	return n
}

func (m *modelWriter) do(s step) {
	if m.fault != api.OK {
		return
	}
	last := len(m.heaps) - 1
	piece, err := m.piece(s)
	if err != api.OK {
		m.fault = err
		return
	}
	if s.call == callOpen {
		m.heaps = append(m.heaps, nil)
		return
	}
	if m.size()+len(piece) > m.room {
		m.fault = api.ErrParRoom
		return
	}
	if s.call == callClose {
		m.heaps[last-1] = join(m.heaps[last-1], piece, m.heaps[last])
		m.heaps = m.heaps[:last]
		return
	}
	m.heaps[last] = append(m.heaps[last], piece...)
}

// piece is what the call adds to the bytes, or its own refusal.
func (m *modelWriter) piece(s step) ([]byte, api.Errno) {
	last := len(m.heaps) - 1
	switch s.call {
	case callByte:
		if s.i != int(byte(s.i)) {
			return nil, api.ErrArg
		}
		return []byte{byte(s.i)}, api.OK
	case callFixed:
		if s.size < 1 || s.size > 8 {
			return nil, api.ErrArg
		}
		return binary.LittleEndian.AppendUint64(nil, s.n)[:s.size], api.OK
	case callNum:
		return binary.AppendUvarint(nil, s.n), api.OK
	case callInt:
		return binary.AppendVarint(nil, int64(s.i)), api.OK
	case callReal:
		if s.x != s.x {
			return []byte{127, 248, 0, 0, 0, 0, 0, 0}, api.OK
		}
		return binary.BigEndian.AppendUint64(nil, math.Float64bits(s.x)), api.OK
	case callText:
		return append(binary.AppendUvarint(nil, uint64(len(s.p))), s.p...), api.OK
	case callOpen:
		if last == api.MaxDeep {
			return nil, api.ErrParForm
		}
		return nil, api.OK
	case callClose:
		if last == 0 {
			return nil, api.ErrArg
		}
		return binary.AppendUvarint(nil, uint64(len(m.heaps[last]))), api.OK
	}
	return s.p, api.OK
}

func (m *modelWriter) done() ([]byte, api.Errno) {
	if m.fault != api.OK {
		return nil, m.fault
	}
	if len(m.heaps) > 1 {
		return nil, api.ErrParRest
	}
	return m.heaps[0], api.OK
}

// modelReader counts ahead.
type modelReader struct {
	p     []byte
	place int
	ends  []int
	fault api.Errno
}

func (m *modelReader) rest() int {
	if m.fault != api.OK {
		return 0
	}
	if len(m.ends) > 0 {
		return m.ends[len(m.ends)-1] - m.place
	}
	return len(m.p) - m.place
}

func (m *modelReader) done() api.Errno {
	if m.fault == api.OK && (m.rest() > 0 || len(m.ends) > 0) {
		return api.ErrParRest
	}
	return m.fault
}

// form is the number that comes next, and how many bytes it has.
func (m *modelReader) form() (uint64, int, api.Errno) {
	p := m.p[m.place : m.place+m.rest()]
	n := uint64(0)
	for k := range 10 {
		if k >= len(p) {
			return 0, 0, api.ErrParShort
		}
		if k == 9 && p[k] > 1 {
			break
		}
		n += uint64(p[k]%128) << (7 * k)
		if p[k] < 128 {
			if k > 0 && p[k] == 0 {
				break
			}
			return n, k + 1, api.OK
		}
	}
	return 0, 0, api.ErrParForm
}

func (m *modelReader) do(s step) step {
	zero := step{call: s.call, size: s.size}
	if m.fault != api.OK {
		return zero
	}
	got, taken, err := m.taking(s, zero)
	if err != api.OK {
		m.fault = err
		return zero
	}
	m.place += taken
	switch s.call {
	case callOpen:
		m.ends = append(m.ends, m.place+got.i)
	case callClose:
		m.ends = m.ends[:len(m.ends)-1]
	}
	return got
}

// taking is the call's answer and how many bytes it takes, or its refusal.
func (m *modelReader) taking(s, got step) (step, int, api.Errno) {
	p := m.p[m.place : m.place+m.rest()]
	n, size, err := m.form()
	switch s.call {
	case callByte:
		if len(p) == 0 {
			return got, 0, api.ErrParShort
		}
		got.i = int(p[0])
		return got, 1, api.OK
	case callFixed:
		if s.size < 1 || s.size > 8 {
			return got, 0, api.ErrArg
		}
		if len(p) < s.size {
			return got, 0, api.ErrParShort
		}
		got.n = binary.LittleEndian.Uint64(append(p[:s.size:s.size], times(8, 0)...))
		return got, s.size, api.OK
	case callNum:
		got.n = n
		return got, size, err
	case callInt:
		got.i = int(n/2) * (1 - 2*int(n%2))
		got.i -= int(n % 2)
		return got, size, err
	case callReal:
		return m.takingReal(p, got)
	case callRaw:
		if s.size < 0 {
			return got, 0, api.ErrArg
		}
		if len(p) < s.size {
			return got, 0, api.ErrParShort
		}
		got.p = p[:s.size]
		return got, s.size, api.OK
	case callClose:
		if len(m.ends) == 0 {
			return got, 0, api.ErrArg
		}
		if len(p) > 0 {
			return got, 0, api.ErrParRest
		}
		return got, 0, api.OK
	}
	if s.call == callOpen && len(m.ends) == api.MaxDeep {
		return got, 0, api.ErrParForm
	}
	if err != api.OK {
		return got, 0, err
	}
	if s.call == callText && (n > 0 && s.size < 0 || s.size >= 0 && n > uint64(s.size)) {
		return got, 0, api.ErrParForm
	}
	if n > uint64(len(p)-size) {
		return got, 0, api.ErrParShort
	}
	if s.call == callOpen {
		got.i = int(n)
		return got, size, api.OK
	}
	got.p = p[size : size+int(n)]
	return got, size + int(n), api.OK
}

func (m *modelReader) takingReal(p []byte, got step) (step, int, api.Errno) {
	if len(p) < 8 {
		return got, 0, api.ErrParShort
	}
	n := binary.BigEndian.Uint64(p)
	if n&^(1<<63) > 0x7FF<<52 && n != 0x7FF8<<48 {
		return got, 0, api.ErrParForm
	}
	got.x = math.Float64frombits(n)
	return got, 8, api.OK
}

// someBits are 64 bits of any length, often at the edge of one.
func someBits(d *rand.Rand) uint64 {
	n := uint64(1)<<d.Intn(64) + uint64(d.Intn(3)) - 1
	if d.Intn(2) == 0 {
		n = d.Uint64() >> d.Intn(64)
	}
	return n
}

// someBytes are a few bytes, many of which are edges of forms and small lengths.
func someBytes(d *rand.Rand, most int) []byte {
	p := make([]byte, d.Intn(most+1))
	for i := range p {
		edges := []byte{0, 1, 2, 3, 127, 128, 129, 255, 248, byte(len(p) - i - 1), byte(d.Intn(256))}
		p[i] = edges[d.Intn(len(edges))]
	}
	return p
}

// someStep is any call with right arguments, or now and then with wrong ones.
func someStep(d *rand.Rand) step {
	s := step{call: d.Intn(calls), i: int(someBits(d)), n: someBits(d), size: 1 + d.Intn(8), p: someBytes(d, 6)}
	s.x = math.Float64frombits(someBits(d) << d.Intn(64))
	if s.call == callByte {
		s.i = d.Intn(256)
	}
	if d.Intn(40) == 0 {
		s.i, s.size = d.Intn(600)-300, d.Intn(40)-20
	}
	return s
}

// P1.1 to P1.4: rows of any calls.
func TestWriterAsTold(t *testing.T) {
	d := rand.New(rand.NewSource(1))
	for turn := range 20000 {
		room := d.Intn(120) - 2
		w, m := parcel.New(room), &modelWriter{room: max(room, 0), heaps: [][]byte{nil}}
		opens := d.Intn(4) // some rows are mostly of Opens
		for range 40 {
			s := someStep(d)
			if opens == 0 && d.Intn(4) > 0 {
				s.call = callOpen
			}
			s.write(w)
			m.do(s)
			p, err := w.Done()
			q, fault := m.done()
			length := 0
			if m.fault == api.OK {
				length = m.size()
			}
			if err != fault || !slices.Equal(p, q) || w.Len() != length {
				t.Fatalf("turn %d, behind %+v: %v %v, Len %d; want %v %v, %d", turn, s, p, err, w.Len(), q, fault, length)
			}
		}
	}
}

// P1.5 to P1.7: rows of any calls over any bytes.
func TestReaderAsTold(t *testing.T) {
	d := rand.New(rand.NewSource(2))
	for turn := range 60000 {
		p := someBytes(d, 40)
		r, m := parcel.Read(p), &modelReader{p: p}
		deep := d.Intn(6) == 0
		for range 30 {
			s := someStep(d)
			if deep && d.Intn(3) > 0 {
				s.call = callOpen
			}
			if d.Intn(2) == 0 && m.rest() == 0 && len(m.ends) > 0 {
				s.call = callClose
			}
			got, wanted := s.read(r), m.do(s)
			if !got.same(wanted) || r.Rest() != m.rest() || r.Done() != m.done() {
				t.Fatalf("turn %d of %v, %+v: %+v, Rest %d, Done %v; want %+v, %d, %v", turn, p, s, got, r.Rest(), r.Done(), wanted, m.rest(), m.done())
			}
		}
	}
}

// P1.6: Num of all short rows of bytes, and of all those of edges.
func TestNumAsTold(t *testing.T) {
	check := func(p []byte) {
		r, m := parcel.Read(p), &modelReader{p: p}
		s := step{call: callNum}
		if got, wanted := s.read(r), m.do(s); !got.same(wanted) || r.Rest() != m.rest() || r.Done() != m.done() {
			t.Fatal(fmt.Sprint("Num of ", p, ": ", got.n, r.Done(), ", want ", wanted.n, m.done()))
		}
	}
	for a := range 256 {
		check([]byte{byte(a)})
		for b := range 256 {
			check([]byte{byte(a), byte(b)})
			for size := range 10 {
				check(join(times(size, 200), []byte{byte(a), byte(b)}))
			}
		}
	}
}
