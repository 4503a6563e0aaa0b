package parcel

import (
	"bytes"
	"slices"

	"haulage/api"
)

// Writer lays pieces down as bytes.
type Writer struct {
	room   int
	bytes  []byte
	starts []int // where the open frames begin, the outermost first
	fault  api.Errno
}

// New: P1.1.
func New(room int) *Writer {
	return &Writer{room: max(room, 0)}
}

// fails says that nothing is to be done: there is no writer, or it has a fault.
func (w *Writer) fails() bool {
	return w == nil || w.fault != api.OK
}

// fail keeps the first fault alone: behind it nothing else of a writer is asked for.
func (w *Writer) fail(why api.Errno) {
	if !w.fails() {
		*w = Writer{fault: why}
	}
}

// hasRoom says whether so many bytes more are within the room. (A sum might run over; this difference can't.)
func (w *Writer) hasRoom(more int) bool {
	return more <= w.room-len(w.bytes)
}

// lay lays the parts down as one piece: all of them or none.
func (w *Writer) lay(parts ...[]byte) {
	if w.fails() {
		return
	}
	size := 0
	for _, p := range parts {
		size += len(p)
	}
	if !w.hasRoom(size) {
		w.fail(api.ErrParRoom)
		return
	}
	for _, p := range parts {
		w.bytes = append(w.bytes, p...)
	}
}

// Byte: P1.2.
func (w *Writer) Byte(n int) {
	if n < 0 || n > 255 {
		w.fail(api.ErrArg)
		return
	}
	w.lay(layNumber(nil, uint8(n)))
}

// Fixed: P1.2.
func (w *Writer) Fixed(n uint64, size int) {
	if size < 1 || size > 8 {
		w.fail(api.ErrArg)
		return
	}
	w.lay(layFixed(n, size))
}

// Num: P1.2.
func (w *Writer) Num(n uint64) {
	w.lay(formOf(n))
}

// Int: P1.2.
func (w *Writer) Int(i int) {
	w.lay(formOf(foldOf(i)))
}

// Real: P1.2.
func (w *Writer) Real(x float64) {
	p := bytesOfReal(x)
	w.lay(p[:])
}

// Raw: P1.2.
func (w *Writer) Raw(p []byte) {
	w.lay(p)
}

// Text: P1.2.
func (w *Writer) Text(p []byte) {
	w.lay(formOf(uint64(len(p))), p)
}

// Open: P1.3.
func (w *Writer) Open() {
	if w.fails() {
		return
	}
	if len(w.starts) == api.MaxDeep {
		w.fail(api.ErrParForm)
		return
	}
	w.starts = append(w.starts, len(w.bytes))
}

// Close: P1.3.
func (w *Writer) Close() {
	if w.fails() {
		return
	}
	if len(w.starts) == 0 {
		w.fail(api.ErrArg)
		return
	}
	last := len(w.starts) - 1
	start := w.starts[last]
	form := formOf(uint64(len(w.bytes) - start))
	if !w.hasRoom(len(form)) {
		w.fail(api.ErrParRoom)
		return
	}
	w.bytes = slices.Insert(w.bytes, start, form...)
	w.starts = w.starts[:last]
}

// Len: P1.4.
func (w *Writer) Len() int {
	if w.fails() {
		return 0
	}
	return len(w.bytes)
}

// Done: P1.4.
func (w *Writer) Done() ([]byte, api.Errno) {
	if w == nil {
		return nil, api.ErrNil
	}
	if w.fault != api.OK {
		return nil, w.fault
	}
	if len(w.starts) > 0 {
		return nil, api.ErrParRest
	}
	return bytes.Clone(w.bytes), api.OK
}
