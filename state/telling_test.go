package state_test

import (
	"bytes"
	"encoding/binary"
	"fmt"
	"slices"
	"testing"

	"haulage/api"
	"haulage/jump"
	"haulage/shard"
	"haulage/state"
)

// telling is a state told a second time, by the chapter's words: a copy is nothing but its form (nil: there is none), and is asked by layer 14 anew each time. It may be unsound.
type telling struct {
	server, servers int
	ledgers         []api.Ledger
	copies          [][]byte
}

// begun is the telling of a new state.
func begun(server, servers, shards int) telling {
	m := telling{server: server, servers: servers}
	for i := range shards {
		if home := jump.Home(i, servers); home == server {
			m.ledgers = append(m.ledgers, owned(0, server))
			m.copies = append(m.copies, []byte{2, 0, 0, 0})
		} else {
			m.ledgers = append(m.ledgers, absent(home))
			m.copies = append(m.copies, nil)
		}
	}
	return m
}

// with is a telling of which one shard is so; the copy counts only in a phase that has one.
func (m telling) with(shard int, l api.Ledger, copied []byte) telling {
	next := m.clone()
	next.ledgers[shard], next.copies[shard] = l, nil
	if toldKeeps(l) {
		next.copies[shard] = copied
	}
	return next
}

// clone shares the copies' forms, which nobody writes over.
func (m telling) clone() telling {
	m.ledgers, m.copies = slices.Clone(m.ledgers), slices.Clone(m.copies)
	return m
}

// stateOf is the state that is told of.
func stateOf(t *testing.T, m telling) *state.State {
	t.Helper()
	return read(t, m.form())
}

func appendNum(p []byte, n int) []byte { return binary.AppendUvarint(p, uint64(n)) }

func appendText(p, q []byte) []byte { return append(appendNum(p, len(q)), q...) }

// head are the pieces ahead of the copies.
func (m telling) head() []byte {
	p := []byte{byte(m.server), byte(m.servers), byte(len(m.ledgers))}
	for _, l := range m.ledgers {
		p = append(p, byte(l.Phase))
		p = binary.LittleEndian.AppendUint32(p, uint32(l.Epoch))
		p = append(p, byte(l.Peer))
	}
	return p
}

func (m telling) form() []byte {
	p := m.head()
	for _, c := range m.copies {
		if c != nil {
			p = appendText(p, c)
		}
	}
	return p
}

// toldValid says by chapter 15's words whether a ledger is sound at the server.
func toldValid(server int, l api.Ledger) bool {
	if server < 0 || server > 7 || l.Phase < 0 || l.Phase > 5 || l.Epoch < 0 || l.Epoch > 1<<30 || l.Peer < 0 || l.Peer > 7 {
		return false
	}
	if l.Phase == api.Owned && l.Peer != server || l.Phase != api.Owned && l.Peer == server {
		return false
	}
	if l.Phase == api.Absent && l.Epoch != 0 || l.Phase > api.Owned && l.Epoch == 0 {
		return false
	}
	return l.Phase != api.Offered || l.Epoch != 1<<30
}

func toldKeeps(l api.Ledger) bool { return l.Phase >= 1 && l.Phase <= 4 }

// isSound says it by the chapter's words.
func (m telling) isSound() bool {
	if m.servers < 1 || m.servers > 8 || m.server < 0 || m.server > m.servers-1 || len(m.ledgers) < 1 || len(m.ledgers) > 64 {
		return false
	}
	for i, l := range m.ledgers {
		home := jump.Home(i, m.servers)
		if !toldValid(m.server, l) || l.Peer >= m.servers || l.Phase == api.Absent && l.Peer != home || l.Phase == api.Owned && l.Epoch == 0 && m.server != home {
			return false
		}
		if toldKeeps(l) != (m.copies[i] != nil) {
			return false
		}
		if _, err := shard.Import(m.copies[i]); toldKeeps(l) && err != api.OK {
			return false
		}
	}
	return true
}

// loose is what bytes tell of, if it is read without asking much.
func loose(p []byte) (telling, bool) {
	if len(p) < 3 || len(p) < 3+6*int(p[2]) {
		return telling{}, false
	}
	m := telling{server: int(p[0]), servers: int(p[1])}
	left := p[3:]
	for range p[2] {
		epoch := binary.LittleEndian.Uint32(left[1:])
		m.ledgers = append(m.ledgers, api.Ledger{Phase: int(left[0]), Epoch: int(epoch), Peer: int(left[5])})
		left = left[6:]
	}
	m.copies = make([][]byte, len(m.ledgers))
	for i, l := range m.ledgers {
		if !toldKeeps(l) {
			continue
		}
		n, k := binary.Uvarint(left)
		if k <= 0 || n > uint64(len(left)-k) {
			return telling{}, false
		}
		m.copies[i] = append([]byte{}, left[k:k+int(n)]...)
		left = left[k+int(n):]
	}
	return m, true
}

// isForm says whether p is the form of a sound state: the one that p tells of, if it is one, and if p is its form.
func isForm(p []byte) bool {
	m, ok := loose(p)
	return ok && bytes.Equal(m.form(), p) && m.isSound()
}

// toldStep is what a record makes of a ledger, by the words of the document's own section and of chapter 15.
func toldStep(server int, l api.Ledger, r api.Record) (api.Ledger, api.Errno) {
	if !toldValid(server, l) || r.Kind < 1 || r.Kind > 8 {
		return api.Ledger{}, api.ErrArg
	}
	right := map[int][]int{1: {1}, 2: {1}, 3: {2}, 4: {0, 5, 4}, 5: {2}, 6: {4}, 7: {3}, 8: {4}}
	if !slices.Contains(right[r.Kind], l.Phase) {
		return api.Ledger{}, api.ErrLedgerPhase
	}
	if r.Kind == 2 && l.Epoch > 1<<30-2 || r.Kind == 4 && (r.Epoch <= l.Epoch || r.Epoch >= 1<<30) {
		return api.Ledger{}, api.ErrLedgerEpoch
	}
	if (r.Kind == 2 || r.Kind == 4) && (r.Peer < 0 || r.Peer > 7 || r.Peer == server) {
		return api.Ledger{}, api.ErrLedgerPeer
	}
	return map[int]api.Ledger{
		1: l,
		2: offered(l.Epoch+1, r.Peer),
		3: owned(l.Epoch+1, server),
		4: installed(r.Epoch, r.Peer),
		5: committed(l.Epoch, l.Peer),
		6: owned(l.Epoch, server),
		7: released(l.Epoch, l.Peer),
		8: released(l.Epoch, l.Peer),
	}[r.Kind], api.OK
}

// toldRight says by chapter 13's words whether an op is a write, and right.
func toldRight(op api.Op) bool {
	if len(op.Key) < 1 || len(op.Key) > 64 || len(op.Value) > 256 {
		return false
	}
	switch op.Kind {
	case api.OpPut:
		return op.Rev == 0
	case api.OpDelete:
		return op.Rev == 0 && len(op.Value) == 0
	case api.OpSwap:
		return op.Rev >= 0 && op.Rev <= 1<<40
	}
	return false
}

// apply is Apply by the chapter's words.
func (m *telling) apply(r api.Record) (api.Answer, api.Errno) {
	if r.Shard < 0 || r.Shard >= len(m.ledgers) {
		return api.Answer{}, api.ErrStateShard
	}
	l, err := toldStep(m.server, m.ledgers[r.Shard], r)
	if err != api.OK {
		return api.Answer{}, err
	}
	if l.Peer >= m.servers {
		return api.Answer{}, api.ErrLedgerPeer
	}
	switch r.Kind {
	case api.RecWrite:
		return m.write(r)
	case api.RecInstall:
		if _, err := shard.Import(r.Copy); err != api.OK {
			return api.Answer{}, api.ErrShardForm
		}
		m.copies[r.Shard] = bytes.Clone(r.Copy)
	case api.RecRelease, api.RecForget:
		m.copies[r.Shard] = nil
	}
	m.ledgers[r.Shard] = l
	return api.Answer{}, api.OK
}

// applied is the telling behind a record, and the error that it has.
func (m telling) applied(r api.Record) (telling, api.Errno) {
	next := m.clone()
	_, err := next.apply(r)
	return next, err
}

func (m *telling) write(r api.Record) (api.Answer, api.Errno) {
	if !toldRight(r.Op) {
		return api.Answer{}, api.ErrTabOp
	}
	c, _ := shard.Import(m.copies[r.Shard])
	answer, did, err := c.Do(r.Client, r.Seq, r.Op)
	if err == api.OK && !did {
		return api.Answer{}, api.ErrShardOld
	}
	if err != api.OK {
		return api.Answer{}, err
	}
	m.copies[r.Shard] = c.Export()
	return answer, api.OK
}

// peek is Peek by the chapter's words.
func (m telling) peek(number, client, seq int, op api.Op) (api.Answer, bool, api.Errno) {
	if number < 0 || number >= len(m.ledgers) {
		return api.Answer{}, false, api.ErrStateShard
	}
	if m.ledgers[number].Phase != api.Owned {
		return api.Answer{}, false, api.ErrLedgerPhase
	}
	c, _ := shard.Import(m.copies[number])
	return c.Do(client, seq, op)
}

// wantState holds all that a state tells without a record against the second telling.
func wantState(t *testing.T, what string, s *state.State, m telling) {
	t.Helper()
	form := m.form()
	wantBytes(t, what+": Bytes", s.Bytes(), form)
	wantNum(t, what+": Size", s.Size(), len(form))
	wantNum(t, what+": Server", s.Server(), m.server)
	wantNum(t, what+": Servers", s.Servers(), m.servers)
	wantNum(t, what+": Shards", s.Shards(), len(m.ledgers))
	for i := -2; i < len(m.ledgers)+2; i++ {
		wantShard(t, fmt.Sprintf("%s: shard %d", what, i), s, m, i)
	}
}

// wantShard holds what a state tells of one shard against the second telling.
func wantShard(t *testing.T, what string, s *state.State, m telling, i int) {
	t.Helper()
	var ledger api.Ledger
	var copied []byte
	why, root := api.ErrStateShard, uint64(0)
	if i >= 0 && i < len(m.ledgers) {
		ledger, copied, why = m.ledgers[i], m.copies[i], api.OK
	}
	if copied != nil {
		c, _ := shard.Import(copied)
		root = c.Root()
	}
	l, err := s.Ledger(i)
	wantErr(t, what+": Ledger", err, why)
	if l != ledger {
		t.Fatalf("%s: Ledger: %v, want %v", what, l, ledger)
	}
	wantBytes(t, what+": Export", s.Export(i), copied)
	wantMark(t, what+": Root", s.Root(i), root)
}

// wantAsTold hands a record to the state and to the second telling, and asks for the same of both: the error, the answer, what After says ahead of it, and all bytes behind it.
func wantAsTold(t *testing.T, what string, s *state.State, m *telling, r api.Record) api.Errno {
	t.Helper()
	what += ": " + short(r)
	before := m.form()
	wanted, why := m.apply(r)
	form := m.form()
	size := len(form)
	if why != api.OK {
		size = 0
	}
	n, err := s.After(r)
	wantErr(t, what+": After", err, why)
	wantNum(t, what+": After", n, size)
	wantBytes(t, what+": Bytes behind After", s.Bytes(), before)
	a, err := s.Apply(r)
	wantErr(t, what+": Apply", err, why)
	if told(a) != told(wanted) {
		t.Fatalf("%s: Apply: %s, want %s", what, told(a), told(wanted))
	}
	wantBytes(t, what+": Bytes", s.Bytes(), form)
	wantNum(t, what+": Size", s.Size(), len(form))
	return why
}

// wantPeekAsTold asks the state and the second telling, for the same of both, and that nothing changes.
func wantPeekAsTold(t *testing.T, s *state.State, m telling, number, client, seq int, op api.Op) api.Errno {
	t.Helper()
	wanted, fresh, why := m.peek(number, client, seq, op)
	if why != api.OK {
		wantNoPeek(t, s, number, client, seq, op, why)
	} else {
		wantPeek(t, s, number, client, seq, op, wanted, fresh)
	}
	wantBytes(t, "Bytes behind Peek", s.Bytes(), m.form())
	return why
}

// wantReadByWords holds Read against the words, and what it makes against what was read.
func wantReadByWords(t *testing.T, p []byte) bool {
	t.Helper()
	if !isForm(p) {
		wantNotRead(t, "no form of a sound state", p)
		return false
	}
	m, _ := loose(p)
	s := read(t, p)
	wantBytes(t, "Bytes of Read", s.Bytes(), p)
	wantNum(t, "Size of Read", s.Size(), len(p))
	for i, l := range m.ledgers {
		wantLedger(t, s, i, l)
		wantBytes(t, "Export of Read", s.Export(i), m.copies[i])
	}
	return true
}
