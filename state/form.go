package state

import (
	"math/bits"

	"haulage/api"
	"haulage/jump"
	"haulage/ledger"
	"haulage/parcel"
	"haulage/shard"
)

// How many bytes the pieces of fixed length have: the three numbers, an epoch, and a ledger with its phase and peer.
const (
	sizeOfHead   = 3
	sizeOfEpoch  = 4
	sizeOfLedger = 1 + sizeOfEpoch + 1
)

// Read: P17.1. A reader with a fault answers zeros, and goes on to the end, where it is asked.
func Read(p []byte) (*State, api.Errno) {
	r := parcel.Read(p)
	server, servers, shards := r.Byte(), r.Byte(), r.Byte()
	if !mayBe(server, servers, shards) {
		return nil, api.ErrStateForm
	}
	s := &State{server: server, servers: servers, all: make([]holding, shards)}
	if !s.takeLedgers(r) || !s.takeCopies(r) || r.Done() != api.OK {
		return nil, api.ErrStateForm
	}
	return s, api.OK
}

// takeLedgers takes up the ledgers, and says whether they are sound.
func (s *State) takeLedgers(r *parcel.Reader) bool {
	for i := range s.all {
		h := &s.all[i]
		h.Phase, h.Epoch, h.Peer = r.Byte(), int(r.Fixed(sizeOfEpoch)), r.Byte()
		if !s.isSound(i, h.Ledger) {
			return false
		}
	}
	return true
}

// isSound says whether this may be the ledger of the shard. No record makes an epoch 0: with that the shard is as it began.
func (s *State) isSound(shard int, l api.Ledger) bool {
	if !ledger.Valid(s.server, l) || l.Peer >= s.servers {
		return false
	}
	return l.Epoch > 0 || l == ledger.Begin(s.server, jump.Home(shard, s.servers))
}

// takeCopies takes up the copies that belong to the ledgers, and says whether they are sound.
func (s *State) takeCopies(r *parcel.Reader) bool {
	for i := range s.all {
		h := &s.all[i]
		if !ledger.Keeps(h.Ledger) {
			continue
		}
		copied, why := shard.Import(r.Text(api.MaxCopy))
		if why != api.OK {
			return false
		}
		h.copied = copied
	}
	return true
}

// Bytes: P17.1.
func (s *State) Bytes() []byte {
	if s == nil {
		return nil
	}
	w := parcel.New(s.Size())
	w.Byte(s.server)
	w.Byte(s.servers)
	w.Byte(len(s.all))
	for _, h := range s.all {
		w.Byte(h.Phase)
		w.Fixed(uint64(h.Epoch), sizeOfEpoch)
		w.Byte(h.Peer)
	}
	for _, h := range s.all {
		if h.copied != nil {
			w.Text(h.copied.Export())
		}
	}
	p, _ := w.Done() // the room is just what these pieces take
	return p
}

// Size: P17.1. It is reckoned, not laid down: each record asks for it.
func (s *State) Size() int {
	if s == nil {
		return 0
	}
	size := sizeOfHead
	for _, h := range s.all {
		size += h.size()
	}
	return size
}

// size is how many bytes the pieces of one shard have.
func (h holding) size() int {
	if h.copied == nil {
		return sizeOfLedger
	}
	return sizeOfLedger + sizeOfText(h.copied.Size())
}

// sizeOfText is how many bytes the form of a text of so many bytes has: its own, and one for each seven bits of their number, but one at least.
func sizeOfText(length int) int { return (bits.Len64(uint64(length)|1)+6)/7 + length }
