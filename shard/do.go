package shard

import (
	"haulage/api"
	"haulage/table"
)

// Do: P14.2.
func (s *Shard) Do(client, seq int, op api.Op) (api.Answer, bool, api.Errno) {
	answer, later, why := s.ahead(client, seq, op)
	if later == nil {
		return answer, false, why
	}
	*s = *later
	return answer, true, why
}

// After: P14.3.
func (s *Shard) After(client, seq int, op api.Op) (int, api.Errno) {
	_, later, why := s.ahead(client, seq, op)
	if why != api.OK {
		return 0, why
	}
	if later == nil {
		return s.Size(), api.OK
	}
	return later.Size(), api.OK
}

// ahead tells what Do answers, and which shard there is behind it: none, if nothing is done. It changes nothing.
func (s *Shard) ahead(client, seq int, op api.Op) (api.Answer, *Shard, api.Errno) {
	if why := s.refusal(client, seq, op); why != api.OK {
		return api.Answer{}, nil, why
	}
	if s.seats[client].Seq == seq {
		return cloneAnswer(s.seats[client].Answer), nil, api.OK
	}
	if isRead(op) {
		answer, why := s.Table.Do(op)
		return answer, nil, why
	}
	return s.write(client, seq, op)
}

// refusal is the error that Do has of whatever op, be it done or answered again.
func (s *Shard) refusal(client, seq int, op api.Op) api.Errno {
	switch {
	case s == nil:
		return api.ErrNil
	case !isClient(client) || !isSeq(seq):
		return api.ErrArg
	case !table.Right(op):
		return api.ErrTabOp
	case s.seats[client].Seq > seq:
		return api.ErrShardOld
	}
	return api.OK
}

// write does a new write on a copy, since it is known only behind it whether the form is too long.
func (s *Shard) write(client, seq int, op api.Op) (api.Answer, *Shard, api.Errno) {
	later := s.Copy()
	answer, why := later.Table.Do(op)
	if why != api.OK {
		return api.Answer{}, nil, why
	}
	later.seats[client] = api.Seat{Client: client, Seq: seq, Answer: cloneAnswer(answer)}
	if later.Size() > api.MaxCopy {
		return api.Answer{}, nil, api.ErrShardFull
	}
	return answer, later, api.OK
}

// isRead tells a right op that only reads from one that has a revision.
func isRead(op api.Op) bool { return op.Kind == api.OpGet || op.Kind == api.OpSeek }
