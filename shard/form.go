package shard

import (
	"math/bits"

	"haulage/api"
	"haulage/parcel"
	"haulage/table"
)

// Import: P14.1.
func Import(p []byte) (*Shard, api.Errno) {
	if len(p) > api.MaxCopy {
		return nil, api.ErrShardForm
	}
	r := parcel.Read(p)
	t, why := table.Read(r.Text(api.MaxCopy))
	if why != api.OK {
		return nil, api.ErrShardForm
	}
	s := &Shard{Table: *t}
	if !s.takeSeats(r) || r.Done() != api.OK {
		return nil, api.ErrShardForm
	}
	return s, api.OK
}

// takeSeats takes up the seats, and says whether they are sound. A reader with a fault answers zeros, and a seq of 0 is none: so a count that no bytes hold ends it too.
func (s *Shard) takeSeats(r *parcel.Reader) bool {
	next := 0 // the least client whose seat may come
	for range r.Num() {
		seat, ok := takeSeat(r)
		if !ok || seat.Client < next || !s.mayHave(seat) {
			return false
		}
		s.seats[seat.Client] = seat
		next = seat.Client + 1
	}
	return true
}

// takeSeat takes up a seat, and says whether its Done is one; the other fields may be unsound. A number beyond all ints becomes one below 0, which no field of a sound seat is.
func takeSeat(r *parcel.Reader) (api.Seat, bool) {
	client, seq, done := int(r.Num()), int(r.Num()), r.Byte()
	key, value := r.Text(api.MaxKey), r.Text(api.MaxValue)
	rev, at := int(r.Num()), int(r.Num())
	answer := api.Answer{Done: done == 1, Key: key, Value: value, Rev: rev, At: at}
	return api.Seat{Client: client, Seq: seq, Answer: answer}, done <= 1
}

// mayHave says whether a seat is sound beside the table and the seats so far. (A place without a seat has At 0, which no sound seat has.)
func (s *Shard) mayHave(seat api.Seat) bool {
	at := seat.Answer.At
	if !isClient(seat.Client) || !isSeq(seat.Seq) || at < 1 || at > s.Rev() || !isAnswer(seat.Answer) {
		return false
	}
	for _, other := range s.seats {
		if other.Answer.At == at {
			return false
		}
	}
	return true
}

// isAnswer says whether an answer tells of a row that may have been there, or of none. The reader has asked how long its Key and Value are.
func isAnswer(answer api.Answer) bool {
	if len(answer.Key) == 0 {
		return len(answer.Value) == 0 && answer.Rev == 0
	}
	return answer.Rev >= 1 && answer.Rev < answer.At
}

// Export: P14.1.
func (s *Shard) Export() []byte {
	if s == nil {
		return nil
	}
	w := parcel.New(api.MaxCopy)
	w.Text(s.Bytes())
	s.laySeats(w)
	p, _ := w.Done() // no shard's form is longer than the room
	return p
}

// laySeats lays down the form's pieces behind the table's.
func (s *Shard) laySeats(w *parcel.Writer) {
	seats := s.taken()
	w.Num(uint64(len(seats)))
	for _, seat := range seats {
		laySeat(w, seat)
	}
}

func laySeat(w *parcel.Writer, seat api.Seat) {
	w.Num(uint64(seat.Client))
	w.Num(uint64(seat.Seq))
	w.Byte(numberOf(seat.Answer.Done))
	w.Text(seat.Answer.Key)
	w.Text(seat.Answer.Value)
	w.Num(uint64(seat.Answer.Rev))
	w.Num(uint64(seat.Answer.At))
}

func numberOf(yes bool) int {
	if yes {
		return 1
	}
	return 0
}

// Size: P14.4. It is reckoned, not laid down: each write asks for it.
func (s *Shard) Size() int {
	if s == nil {
		return 0
	}
	seats := s.taken()
	size := sizeOfText(s.Table.Size()) + sizeOfNum(len(seats))
	for _, seat := range seats {
		size += sizeOfSeat(seat)
	}
	return size
}

func sizeOfSeat(seat api.Seat) int {
	a := seat.Answer
	const sizeOfDone = 1
	return sizeOfNum(seat.Client) + sizeOfNum(seat.Seq) + sizeOfDone + sizeOfText(len(a.Key)) + sizeOfText(len(a.Value)) + sizeOfNum(a.Rev) + sizeOfNum(a.At)
}

// sizeOfText is how many bytes the form of a text of so many bytes has.
func sizeOfText(length int) int { return sizeOfNum(length) + length }

// sizeOfNum is how many bytes the form of a number has: one for each seven bits, but one at least.
func sizeOfNum(n int) int { return (bits.Len64(uint64(n)|1) + 6) / 7 }
