package server

import (
	"haulage/api"
	"haulage/jump"
)

// What a request weighs among the loads: one that is journaled twice as much as one that is only answered.
const (
	weightOfAnswer = 1.0
	weightOfDeed   = 2.0
)

// hearRequest: P22.3.
func (s *Server) hearRequest(m api.Mail) ([]api.Letter, api.Errno) {
	if !s.isOfItsShard(m) {
		return nil, api.OK
	}
	l, _ := s.engine.Ledger(m.Shard)
	switch l.Phase {
	case api.Owned:
		return s.serve(m)
	case api.Offered, api.Committed, api.Installed:
		return s.refuse(m, api.ErrFrozen, l.Peer), api.OK
	}
	return s.refuse(m, api.ErrWrongOwner, l.Peer), api.OK
}

// isOfItsShard says whether there is the shard of a request, and it is the one of its key. Any shard may be asked what comes behind a key.
func (s *Server) isOfItsShard(m api.Mail) bool {
	shards := s.engine.Shards()
	return m.Shard < shards && (m.Op.Kind == api.OpSeek || jump.Shard(m.Op.Key, shards) == m.Shard)
}

// serve answers a request of a shard that is owned, if there is an answer.
func (s *Server) serve(m api.Mail) ([]api.Letter, api.Errno) {
	answer, isNewWrite, err := s.engine.Peek(m.Shard, m.Client, m.Seq, m.Op)
	weight := weightOfAnswer
	if isNewWrite {
		weight = weightOfDeed
		answer, err = s.write(m)
	}
	switch err {
	case api.OK:
		s.meter.Hit(m.Shard, s.clock, weight)
		reply := s.replyTo(m)
		reply.Answer = answer
		return sent([]api.Mail{reply}), api.OK
	case api.ErrShardFull, api.ErrDiskFull:
		return s.refuse(m, api.ErrDiskFull, 0), api.OK
	case api.ErrLogFull:
		return s.refuse(m, api.ErrLogFull, 0), api.OK
	case api.ErrEngDead:
		return nil, err
	}
	return nil, api.OK
}

// write has the engine do a write. Then it is a deed.
func (s *Server) write(m api.Mail) (api.Answer, api.Errno) {
	answer, err := s.engine.Do(api.Record{Kind: api.RecWrite, Shard: m.Shard, Client: m.Client, Seq: m.Seq, Op: m.Op})
	if err == api.OK {
		s.deeds = append(s.deeds, api.Deed{Shard: m.Shard, Rev: answer.At, Client: m.Client, Seq: m.Seq})
	}
	return answer, err
}

// refuse sends a verdict that is not OK.
func (s *Server) refuse(m api.Mail, verdict api.Errno, hint int) []api.Letter {
	reply := s.replyTo(m)
	reply.Verdict, reply.Hint = verdict, hint
	return sent([]api.Mail{reply})
}

// replyTo is a reply to a request in which the verdict, and what goes with it, is still to be set.
func (s *Server) replyTo(m api.Mail) api.Mail {
	return api.Mail{Kind: api.MailReply, From: s.number, To: m.From, Shard: m.Shard, Client: m.Client, Seq: m.Seq}
}
