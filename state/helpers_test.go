package state_test

import (
	"bytes"
	"fmt"
	"math"
	"testing"

	"haulage/api"
	"haulage/state"
)

const (
	maxKey     = 64
	maxValue   = 256
	maxServers = 8
	maxShards  = 64
	maxClients = 16
	maxSeq     = 1 << 30
	maxEpoch   = 1 << 30
	maxRev     = 1 << 40
	maxCopy    = 1 << 18
)

func get(key string) api.Op { return api.Op{Kind: api.OpGet, Key: []byte(key)} }

func put(key, value string) api.Op {
	return api.Op{Kind: api.OpPut, Key: []byte(key), Value: []byte(value)}
}

func del(key string) api.Op { return api.Op{Kind: api.OpDelete, Key: []byte(key)} }

func swap(key, value string, rev int) api.Op {
	return api.Op{Kind: api.OpSwap, Key: []byte(key), Value: []byte(value), Rev: rev}
}

func seek(key string) api.Op { return api.Op{Kind: api.OpSeek, Key: []byte(key)} }

func write(shard, client, seq int, op api.Op) api.Record {
	return api.Record{Kind: api.RecWrite, Shard: shard, Client: client, Seq: seq, Op: op}
}

func offer(shard, to int) api.Record {
	return api.Record{Kind: api.RecOffer, Shard: shard, Peer: to}
}

func install(shard, epoch, from int, copied []byte) api.Record {
	return api.Record{Kind: api.RecInstall, Shard: shard, Epoch: epoch, Peer: from, Copy: copied}
}

func plain(kind, shard int) api.Record { return api.Record{Kind: kind, Shard: shard} }

func absent(peer int) api.Ledger           { return api.Ledger{Phase: 0, Peer: peer} }
func owned(epoch, peer int) api.Ledger     { return api.Ledger{Phase: 1, Epoch: epoch, Peer: peer} }
func offered(epoch, peer int) api.Ledger   { return api.Ledger{Phase: 2, Epoch: epoch, Peer: peer} }
func committed(epoch, peer int) api.Ledger { return api.Ledger{Phase: 3, Epoch: epoch, Peer: peer} }
func installed(epoch, peer int) api.Ledger { return api.Ledger{Phase: 4, Epoch: epoch, Peer: peer} }
func released(epoch, peer int) api.Ledger  { return api.Ledger{Phase: 5, Epoch: epoch, Peer: peer} }

// yes and no are answers.
func yes(key, value string, rev, at int) api.Answer {
	return api.Answer{Done: true, Key: []byte(key), Value: []byte(value), Rev: rev, At: at}
}

func no(key, value string, rev, at int) api.Answer {
	return api.Answer{Key: []byte(key), Value: []byte(value), Rev: rev, At: at}
}

// told is an answer as a text, in which nil and empty lists are the same.
func told(a api.Answer) string {
	return fmt.Sprintf("done %v, key %q, value %q, rev %d, at %d", a.Done, a.Key, a.Value, a.Rev, a.At)
}

// short is a record as a text that is not too long.
func short(r api.Record) string {
	return fmt.Sprintf("kind %d, shard %d, epoch %d, peer %d, client %d, seq %d, op %d %.20q %d bytes %d, copy of %d bytes", r.Kind, r.Shard, r.Epoch, r.Peer, r.Client, r.Seq, r.Op.Kind, r.Op.Key, len(r.Op.Value), r.Op.Rev, len(r.Copy))
}

// text is a text of n bytes that are all unlike their neighbours; no two texts of unlike marks begin alike.
func text(n, mark int) string {
	p := make([]byte, n)
	for i := range p {
		p[i] = byte(1 + (mark*41+i*7)%255)
	}
	return string(p)
}

// farNumbers are such as are no server, no shard, no epoch and no seq anywhere.
func farNumbers() []int {
	return []int{math.MinInt, math.MinInt + 1, -1 << 32, 1 << 32, 1<<32 + 1, 1 << 40, math.MaxInt - 1, math.MaxInt}
}

// oneOfEach are right ops of each kind, which find the row of this key or one of another.
func oneOfEach(key string) []api.Op {
	return []api.Op{get(key), put(key, "new"), put(key, ""), del(key), swap(key, "new", 0), swap(key, "new", 1), swap(key, "new", maxRev), seek(key), seek("")}
}

// wrongOps are ops of each kind that are not right, each by one field alone.
func wrongOps() []api.Op {
	long, longer, much := []byte(text(maxKey+1, 1)), []byte(text(maxKey+2, 1)), []byte(text(maxValue+1, 1))
	a, v := []byte("a"), []byte("v")
	return []api.Op{
		{}, {Kind: 0, Key: a}, {Kind: -1, Key: a}, {Kind: 6, Key: a}, {Kind: 9}, {Kind: 1 << 40, Key: a},
		{Kind: api.OpGet}, {Kind: api.OpGet, Key: long}, {Kind: api.OpGet, Key: a, Value: v}, {Kind: api.OpGet, Key: a, Rev: 1},
		{Kind: api.OpDelete}, {Kind: api.OpDelete, Key: long}, {Kind: api.OpDelete, Key: a, Value: v}, {Kind: api.OpDelete, Key: a, Rev: 1},
		{Kind: api.OpPut}, {Kind: api.OpPut, Key: long}, {Kind: api.OpPut, Key: a, Value: much}, {Kind: api.OpPut, Key: a, Rev: 1},
		{Kind: api.OpSwap}, {Kind: api.OpSwap, Key: long}, {Kind: api.OpSwap, Key: a, Value: much}, {Kind: api.OpSwap, Key: a, Rev: -1}, {Kind: api.OpSwap, Key: a, Rev: maxRev + 1},
		{Kind: api.OpSeek, Key: longer}, {Kind: api.OpSeek, Value: v}, {Kind: api.OpSeek, Rev: 1}, {Kind: api.OpSeek, Rev: -1},
	}
}

// made is a New that goes well.
func made(t *testing.T, server, servers, shards int) *state.State {
	t.Helper()
	s, err := state.New(server, servers, shards)
	if s == nil || err != api.OK {
		t.Fatalf("New(%d, %d, %d): a state: %v, error %d", server, servers, shards, s != nil, err)
	}
	return s
}

// read is a Read that goes well.
func read(t *testing.T, p []byte) *state.State {
	t.Helper()
	s, err := state.Read(p)
	if s == nil || err != api.OK {
		t.Fatalf("Read(%d bytes %v): a state: %v, error %d", len(p), p[:min(len(p), 200)], s != nil, err)
	}
	return s
}

// wantNotRead asks that Read refuses.
func wantNotRead(t *testing.T, what string, p []byte) {
	t.Helper()
	s, err := state.Read(p)
	if s != nil || err != api.ErrStateForm {
		t.Fatalf("%s: Read(%d bytes %v): a state: %v, error %d", what, len(p), p[:min(len(p), 200)], s != nil, err)
	}
}

// wantApply asks for an answer with OK.
func wantApply(t *testing.T, s *state.State, r api.Record, wanted api.Answer) {
	t.Helper()
	a, err := s.Apply(r)
	wantErr(t, "Apply of "+short(r), err, api.OK)
	if told(a) != told(wanted) {
		t.Fatalf("Apply of %s: %s, want %s", short(r), told(a), told(wanted))
	}
}

// wantTaken asks that a record which is no Write is taken.
func wantTaken(t *testing.T, s *state.State, r api.Record) {
	t.Helper()
	wantApply(t, s, r, api.Answer{})
}

// wantAfter asks for the Size that the form would have.
func wantAfter(t *testing.T, s *state.State, r api.Record, wanted int) {
	t.Helper()
	n, err := s.After(r)
	wantErr(t, "After of "+short(r), err, api.OK)
	wantNum(t, "After of "+short(r), n, wanted)
}

// wantRefused asks that a record is refused by After and by Apply, with nothing beside the error, and that nothing changes.
func wantRefused(t *testing.T, s *state.State, r api.Record, wanted api.Errno) {
	t.Helper()
	before := s.Bytes()
	n, err := s.After(r)
	wantErr(t, "After of "+short(r), err, wanted)
	wantNum(t, "After beside an error", n, 0)
	a, err := s.Apply(r)
	wantErr(t, "Apply of "+short(r), err, wanted)
	if told(a) != told(api.Answer{}) {
		t.Fatalf("Apply of %s: %s beside an error", short(r), told(a))
	}
	wantBytes(t, "Bytes behind "+short(r), s.Bytes(), before)
}

// wantPeek asks for an answer, and whether it would be that of a write that is done now.
func wantPeek(t *testing.T, s *state.State, shard, client, seq int, op api.Op, wanted api.Answer, fresh bool) {
	t.Helper()
	what := fmt.Sprintf("Peek(%d, %d, %d, %v)", shard, client, seq, op)
	before := s.Bytes()
	a, did, err := s.Peek(shard, client, seq, op)
	wantErr(t, what, err, api.OK)
	wantBool(t, what+": done now", did, fresh)
	if told(a) != told(wanted) {
		t.Fatalf("%s: %s, want %s", what, told(a), told(wanted))
	}
	wantBytes(t, "Bytes behind "+what, s.Bytes(), before)
}

// wantNoPeek asks that Peek refuses, with nothing beside the error.
func wantNoPeek(t *testing.T, s *state.State, shard, client, seq int, op api.Op, wanted api.Errno) {
	t.Helper()
	what := fmt.Sprintf("Peek(%d, %d, %d, kind %d)", shard, client, seq, op.Kind)
	before := s.Bytes()
	a, did, err := s.Peek(shard, client, seq, op)
	wantErr(t, what, err, wanted)
	wantBool(t, what+": done now", did, false)
	if told(a) != told(api.Answer{}) {
		t.Fatalf("%s: %s beside an error", what, told(a))
	}
	wantBytes(t, "Bytes behind "+what, s.Bytes(), before)
}

// wantLedger asks for the ledger of a shard.
func wantLedger(t *testing.T, s *state.State, shard int, wanted api.Ledger) {
	t.Helper()
	if l, err := s.Ledger(shard); l != wanted || err != api.OK {
		t.Fatalf("Ledger(%d): %v, error %d, want %v", shard, l, err, wanted)
	}
}

func wantErr(t *testing.T, what string, got, wanted api.Errno) {
	t.Helper()
	if got != wanted {
		t.Fatalf("%s: error %d, want %d", what, got, wanted)
	}
}

func wantNum(t *testing.T, what string, got, wanted int) {
	t.Helper()
	if got != wanted {
		t.Fatalf("%s: %d, want %d", what, got, wanted)
	}
}

func wantMark(t *testing.T, what string, got, wanted uint64) {
	t.Helper()
	if got != wanted {
		t.Fatalf("%s: %X, want %X", what, got, wanted)
	}
}

func wantBool(t *testing.T, what string, got, wanted bool) {
	t.Helper()
	if got != wanted {
		t.Fatalf("%s: %v, want %v", what, got, wanted)
	}
}

// wantBytes compares bytes; nil and empty are the same.
func wantBytes(t *testing.T, what string, got, wanted []byte) {
	t.Helper()
	if !bytes.Equal(got, wanted) {
		t.Fatalf("%s: %d bytes %v, want %d bytes %v", what, len(got), got[:min(len(got), 200)], len(wanted), wanted[:min(len(wanted), 200)])
	}
}
