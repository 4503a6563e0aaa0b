package state

import (
	"haulage/api"
	"haulage/ledger"
	"haulage/shard"
)

// Apply: P17.2.
func (s *State) Apply(r api.Record) (api.Answer, api.Errno) {
	answer, later, why := s.ahead(r)
	if why != api.OK {
		return api.Answer{}, why
	}
	s.all[r.Shard] = later
	return answer, api.OK
}

// After: P17.3.
func (s *State) After(r api.Record) (int, api.Errno) {
	_, later, why := s.ahead(r)
	if why != api.OK {
		return 0, why
	}
	return s.Size() - s.all[r.Shard].size() + later.size(), api.OK
}

// Peek: P17.4. What the op would do is done on a copy of the copy, which is let go.
func (s *State) Peek(shard, client, seq int, op api.Op) (api.Answer, bool, api.Errno) {
	h, why := s.at(shard)
	if why != api.OK {
		return api.Answer{}, false, why
	}
	if !ledger.Serves(h.Ledger) {
		return api.Answer{}, false, api.ErrLedgerPhase
	}
	return h.copied.Copy().Do(client, seq, op)
}

// ahead tells what Apply answers, and what there is of the record's shard behind it. It changes nothing.
func (s *State) ahead(r api.Record) (api.Answer, holding, api.Errno) {
	h, why := s.at(r.Shard)
	if why != api.OK {
		return api.Answer{}, holding{}, why
	}
	h.Ledger, why = ledger.Step(s.server, h.Ledger, r)
	if why != api.OK {
		return api.Answer{}, holding{}, why
	}
	if h.Peer >= s.servers { // to the ledger's Step each number up to the limit is a server
		return api.Answer{}, holding{}, api.ErrLedgerPeer
	}
	switch r.Kind {
	case api.RecWrite:
		return h.written(r)
	case api.RecInstall:
		h.copied, why = shard.Import(r.Copy)
	case api.RecRelease, api.RecForget:
		h.copied = nil
	}
	return api.Answer{}, h, why
}

// written is the holding behind a Write, and what is answered to that.
func (h holding) written(r api.Record) (api.Answer, holding, api.Errno) {
	if !isWrite(r.Op) {
		return api.Answer{}, holding{}, api.ErrTabOp
	}
	h.copied = h.copied.Copy()
	answer, did, why := h.copied.Do(r.Client, r.Seq, r.Op)
	if why == api.OK && !did {
		why = api.ErrShardOld // it is the seat's own seq: what was done is not journaled again
	}
	return answer, h, why
}

// isWrite says whether an op is a write, and right: a new shard does just such a one. (The copy would ask for the client and the seq first.)
func isWrite(op api.Op) bool {
	_, did, _ := shard.New().Do(0, 1, op)
	return did
}
