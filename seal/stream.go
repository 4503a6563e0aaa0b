package seal

// Stream is the sum of a text that grows. It keeps the sum and not the register, so that a Stream of zeros is one into which nothing was written.
type Stream struct {
	sum    uint32
	length int
}

// NewStream: P2.2.
func NewStream() *Stream { return &Stream{} }

// Write: P2.2.
func (s *Stream) Write(p []byte) {
	if s == nil {
		return
	}
	s.sum = grow(s.sum, p)
	s.length += len(p)
}

// Sum: P2.2.
func (s *Stream) Sum() uint32 {
	if s == nil {
		return 0
	}
	return s.sum
}

// Len: P2.2.
func (s *Stream) Len() int {
	if s == nil {
		return 0
	}
	return s.length
}
