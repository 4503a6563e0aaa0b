package parcel

import (
	"bytes"
	"math"

	"haulage/api"
)

// Reader takes pieces out of bytes.
type Reader struct {
	left   []byte   // from the place to the end: a frame's bytes alone, while it is in one
	behind [][]byte // what stands behind each frame that it is in, the outermost first
	fault  api.Errno
}

// Read: P1.5.
func Read(p []byte) *Reader {
	return &Reader{left: bytes.Clone(p)}
}

// take is the face of the nine calls: reading gives up deep inside by a panic, with a refusal or by the language's own fault beyond the end, and here that becomes the reader's fault.
func (r *Reader) take(read func()) {
	if r == nil || r.fault != api.OK {
		return
	}
	defer func() {
		if why := recover(); why != nil {
			*r = Reader{fault: faultOf(why)} // nothing else is asked of it any more
		}
	}()
	read()
}

// faultOf tells a refusal from the language's own fault, which comes of reading beyond the end alone.
func faultOf(why any) api.Errno {
	if refusal, ok := why.(api.Errno); ok {
		return refusal
	}
	return api.ErrParShort
}

// refuseIf gives the reading up.
func refuseIf(wrong bool, why api.Errno) {
	if wrong {
		panic(why)
	}
}

// next takes a byte without looking whether there is one: at the end the language's own fault gives the reading up.
func (r *Reader) next() byte {
	b := r.left[0]
	r.left = r.left[1:]
	return b
}

// cut takes the next n bytes. What stands behind them is cut first: that fails by the length, where cutting these bytes off would look at the spare room too.
func (r *Reader) cut(n uint64) []byte {
	rest := r.left[n:]
	p := r.left[:n]
	r.left = rest
	return p
}

// number takes a form, byte by byte, so that a form which is cut off and wrong has the refusal that comes first.
func (r *Reader) number() uint64 {
	n := uint64(0)
	for k := 0; ; k++ {
		b := r.next()
		refuseIf(k == 9 && b > 1, api.ErrParForm)
		n |= uint64(b&127) << (7 * k)
		if b < 128 {
			refuseIf(b == 0 && k > 0, api.ErrParForm)
			return n
		}
	}
}

// Byte: P1.6.
func (r *Reader) Byte() int {
	var n int
	r.take(func() { n = int(takeNumber[uint8](r)) })
	return n
}

// Fixed: P1.6.
func (r *Reader) Fixed(size int) uint64 {
	var n uint64
	r.take(func() {
		refuseIf(size < 1 || size > 8, api.ErrArg)
		n = takeFixed(r, size)
	})
	return n
}

// Num: P1.6.
func (r *Reader) Num() uint64 {
	var n uint64
	r.take(func() { n = r.number() })
	return n
}

// Int: P1.6.
func (r *Reader) Int() int {
	var i int
	r.take(func() { i = unfold(r.number()) })
	return i
}

// Real: P1.6.
func (r *Reader) Real() float64 {
	var x float64
	r.take(func() {
		bits := bitsOfReal([8]byte(r.cut(8)))
		y := math.Float64frombits(bits)
		refuseIf(math.IsNaN(y) && bits != oneNaN, api.ErrParForm)
		x = y
	})
	return x
}

// Raw: P1.6.
func (r *Reader) Raw(n int) []byte {
	var p []byte
	r.take(func() {
		refuseIf(n < 0, api.ErrArg)
		p = bytes.Clone(r.cut(uint64(n)))
	})
	return p
}

// Text: P1.6.
func (r *Reader) Text(most int) []byte {
	var p []byte
	r.take(func() {
		n := r.number()
		refuseIf(n > uint64(max(most, 0)), api.ErrParForm)
		p = bytes.Clone(r.cut(n))
	})
	return p
}

// Enter: P1.6.
func (r *Reader) Enter() int {
	var n int
	r.take(func() {
		refuseIf(len(r.behind) == api.MaxDeep, api.ErrParForm)
		frame := r.cut(r.number())
		r.behind = append(r.behind, r.left)
		r.left = frame
		n = len(frame)
	})
	return n
}

// Leave: P1.6.
func (r *Reader) Leave() {
	r.take(func() {
		refuseIf(len(r.behind) == 0, api.ErrArg)
		refuseIf(len(r.left) > 0, api.ErrParRest)
		last := len(r.behind) - 1
		r.left = r.behind[last]
		r.behind = r.behind[:last]
	})
}

// Rest: P1.7.
func (r *Reader) Rest() int {
	if r == nil || r.fault != api.OK {
		return 0
	}
	return len(r.left)
}

// Done: P1.7.
func (r *Reader) Done() api.Errno {
	if r == nil {
		return api.ErrNil
	}
	if r.fault != api.OK {
		return r.fault
	}
	if len(r.left) > 0 || len(r.behind) > 0 {
		return api.ErrParRest
	}
	return api.OK
}
