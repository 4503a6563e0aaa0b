package shard_test

import (
	"bytes"
	"fmt"
	"math/rand"
	"strings"
	"testing"

	"haulage/api"
	"haulage/shard"
)

const (
	maxRev     = 1 << 40
	maxSeq     = 1 << 30
	maxClients = 16
	maxCopy    = 1 << 18
	maxKey     = 64
	maxValue   = 256
)

func get(key string) api.Op { return api.Op{Kind: api.OpGet, Key: []byte(key)} }

func put(key, value string) api.Op {
	return api.Op{Kind: api.OpPut, Key: []byte(key), Value: []byte(value)}
}

func del(key string) api.Op { return api.Op{Kind: api.OpDelete, Key: []byte(key)} }

func swap(key, value string, rev int) api.Op {
	return api.Op{Kind: api.OpSwap, Key: []byte(key), Value: []byte(value), Rev: rev}
}

func seek(key string) api.Op { return api.Op{Kind: api.OpSeek, Key: []byte(key)} }

// yes and no are answers.
func yes(key, value string, rev, at int) api.Answer {
	return api.Answer{Done: true, Key: []byte(key), Value: []byte(value), Rev: rev, At: at}
}

func no(key, value string, rev, at int) api.Answer {
	return api.Answer{Key: []byte(key), Value: []byte(value), Rev: rev, At: at}
}

func row(key, value string, rev int) api.Row {
	return api.Row{Key: []byte(key), Value: []byte(value), Rev: rev}
}

func seat(client, seq int, answer api.Answer) api.Seat {
	return api.Seat{Client: client, Seq: seq, Answer: answer}
}

// told is an answer as a text, in which nil and empty lists are the same.
func told(a api.Answer) string {
	return fmt.Sprintf("done %v, key %q, value %q, rev %d, at %d", a.Done, a.Key, a.Value, a.Rev, a.At)
}

func toldRows(rows []api.Row) string {
	var all strings.Builder
	for _, r := range rows {
		fmt.Fprintf(&all, "%q %q %d; ", r.Key, r.Value, r.Rev)
	}
	return all.String()
}

func toldSeats(seats []api.Seat) string {
	var all strings.Builder
	for _, s := range seats {
		fmt.Fprintf(&all, "client %d, seq %d, %s; ", s.Client, s.Seq, told(s.Answer))
	}
	return all.String()
}

// text is a text of n bytes that are all unlike their neighbours; no two texts of unlike marks begin alike.
func text(n, mark int) string {
	p := make([]byte, n)
	for i := range p {
		p[i] = byte(1 + (mark*41+i*7)%255)
	}
	return string(p)
}

// oneOfEach are right ops of each kind, which find the row of this key or one of another.
func oneOfEach(key string) []api.Op {
	return []api.Op{get(key), put(key, "new"), put(key, ""), del(key), swap(key, "new", 0), swap(key, "new", 1), swap(key, "new", maxRev), seek(key), seek("")}
}

// wrongOps are ops of each kind that are not right, each by one field alone.
func wrongOps() []api.Op {
	long, longer, much := []byte(text(maxKey+1, 1)), []byte(text(maxKey+2, 1)), []byte(text(maxValue+1, 1))
	a, v := []byte("a"), []byte("v")
	return []api.Op{
		{}, {Kind: 0, Key: a}, {Kind: -1, Key: a}, {Kind: 6, Key: a}, {Kind: 9}, {Kind: 1 << 40, Key: a},
		{Kind: api.OpGet}, {Kind: api.OpGet, Key: long}, {Kind: api.OpGet, Key: a, Value: v}, {Kind: api.OpGet, Key: a, Rev: 1},
		{Kind: api.OpDelete}, {Kind: api.OpDelete, Key: long}, {Kind: api.OpDelete, Key: a, Value: v}, {Kind: api.OpDelete, Key: a, Rev: 1},
		{Kind: api.OpPut}, {Kind: api.OpPut, Key: long}, {Kind: api.OpPut, Key: a, Value: much}, {Kind: api.OpPut, Key: a, Rev: 1},
		{Kind: api.OpSwap}, {Kind: api.OpSwap, Key: long}, {Kind: api.OpSwap, Key: a, Value: much}, {Kind: api.OpSwap, Key: a, Rev: -1}, {Kind: api.OpSwap, Key: a, Rev: maxRev + 1},
		{Kind: api.OpSeek, Key: longer}, {Kind: api.OpSeek, Value: v}, {Kind: api.OpSeek, Rev: 1}, {Kind: api.OpSeek, Rev: -1},
	}
}

// imported is an Import that goes well.
func imported(t *testing.T, p []byte) *shard.Shard {
	t.Helper()
	s, err := shard.Import(p)
	if s == nil || err != api.OK {
		t.Fatalf("Import of %d bytes: a shard: %v, error %d", len(p), s != nil, err)
	}
	return s
}

// wantNotImported asks that Import refuses.
func wantNotImported(t *testing.T, what string, p []byte) {
	t.Helper()
	s, err := shard.Import(p)
	if s != nil || err != api.ErrShardForm {
		t.Fatalf("%s: Import(%v): a shard: %v, error %d", what, p[:min(len(p), 80)], s != nil, err)
	}
}

// wantDo asks for an answer, and whether it is that of a write that was done now.
func wantDo(t *testing.T, s *shard.Shard, client, seq int, op api.Op, wanted api.Answer, fresh bool) {
	t.Helper()
	what := fmt.Sprintf("Do(%d, %d, %v)", client, seq, op)
	a, did, err := s.Do(client, seq, op)
	wantErr(t, what, err, api.OK)
	wantBool(t, what+": done now", did, fresh)
	if told(a) != told(wanted) {
		t.Fatalf("%s: %s, want %s", what, told(a), told(wanted))
	}
}

// wantAfter asks for the Size that the form would have.
func wantAfter(t *testing.T, s *shard.Shard, client, seq int, op api.Op, wanted int) {
	t.Helper()
	what := fmt.Sprintf("After(%d, %d, %v)", client, seq, op)
	n, err := s.After(client, seq, op)
	wantErr(t, what, err, api.OK)
	wantNum(t, what, n, wanted)
}

// wantRefused asks that an op is refused by Do and by After, with nothing beside the error, and that nothing changes.
func wantRefused(t *testing.T, s *shard.Shard, client, seq int, op api.Op, wanted api.Errno) {
	t.Helper()
	what := fmt.Sprintf("(%d, %d, kind %d, key of %d, value of %d, rev %d)", client, seq, op.Kind, len(op.Key), len(op.Value), op.Rev)
	before, root := s.Export(), s.Root()
	n, err := s.After(client, seq, op)
	wantErr(t, "After"+what, err, wanted)
	wantNum(t, "After"+what+" beside an error", n, 0)
	a, did, err := s.Do(client, seq, op)
	wantErr(t, "Do"+what, err, wanted)
	wantBool(t, "Do"+what+": done now", did, false)
	if told(a) != told(api.Answer{}) {
		t.Fatalf("Do%s: %s beside an error", what, told(a))
	}
	wantBytes(t, what+": the shard behind it", s.Export(), before)
	wantMark(t, what+": Root behind it", s.Root(), root)
}

// wantShard holds all that a shard tells without an op against the second telling.
func wantShard(t *testing.T, what string, s *shard.Shard, m telling) {
	t.Helper()
	form := m.form()
	wantBytes(t, what+": Export", s.Export(), form)
	wantNum(t, what+": Size", s.Size(), len(form))
	wantNum(t, what+": Rev", s.Rev(), m.rev)
	wantNum(t, what+": Len", s.Len(), len(m.rows))
	if got, wanted := toldRows(s.Rows()), toldRows(m.allRows()); got != wanted {
		t.Fatalf("%s: Rows: %s, want %s", what, got, wanted)
	}
	if got, wanted := toldSeats(s.Seats()), toldSeats(m.allSeats()); got != wanted {
		t.Fatalf("%s: Seats: %s, want %s", what, got, wanted)
	}
	for client := -2; client < maxClients+2; client++ {
		wanted, has := m.seats[client]
		got, ok := s.Seat(client)
		wantBool(t, fmt.Sprintf("%s: Seat(%d)", what, client), ok, has)
		if toldSeats([]api.Seat{got}) != toldSeats([]api.Seat{wanted}) {
			t.Fatalf("%s: Seat(%d): %v, want %v", what, client, got, wanted)
		}
	}
	wantMark(t, what+": Root", s.Root(), m.root())
}

// wantAsTold does an op on the shard and in the second telling, and asks for the same of both: the error, the answer, whether it was done now, and what After says ahead of it.
func wantAsTold(t *testing.T, what string, s *shard.Shard, m *telling, client, seq int, op api.Op) api.Errno {
	t.Helper()
	what = fmt.Sprintf("%s (%d, %d, kind %d, %.20q)", what, client, seq, op.Kind, op.Key)
	before := len(m.form())
	wanted, fresh, why := m.do(client, seq, op)
	size := len(m.form())
	if why != api.OK {
		size = 0
	}
	n, err := s.After(client, seq, op)
	wantErr(t, what+": After", err, why)
	wantNum(t, what+": After", n, size)
	wantNum(t, what+": Size behind After", s.Size(), before)
	a, did, err := s.Do(client, seq, op)
	wantErr(t, what+": Do", err, why)
	wantBool(t, what+": done now", did, fresh)
	if told(a) != told(wanted) {
		t.Fatalf("%s: Do: %s, want %s", what, told(a), told(wanted))
	}
	return why
}

func wantErr(t *testing.T, what string, got, wanted api.Errno) {
	t.Helper()
	if got != wanted {
		t.Fatalf("%s: error %d, want %d", what, got, wanted)
	}
}

func wantNum(t *testing.T, what string, got, wanted int) {
	t.Helper()
	if got != wanted {
		t.Fatalf("%s: %d, want %d", what, got, wanted)
	}
}

func wantMark(t *testing.T, what string, got, wanted uint64) {
	t.Helper()
	if got != wanted {
		t.Fatalf("%s: %X, want %X", what, got, wanted)
	}
}

func wantBool(t *testing.T, what string, got, wanted bool) {
	t.Helper()
	if got != wanted {
		t.Fatalf("%s: %v, want %v", what, got, wanted)
	}
}

// wantBytes compares bytes; nil and empty are the same.
func wantBytes(t *testing.T, what string, got, wanted []byte) {
	t.Helper()
	if !bytes.Equal(got, wanted) {
		t.Fatalf("%s: %d bytes %v, want %d bytes %v", what, len(got), got[:min(len(got), 200)], len(wanted), wanted[:min(len(wanted), 200)])
	}
}

// fewKeys are keys of which many an op finds a row.
func fewKeys() []string {
	return []string{"a", "b", "aa", "a\x00", "\x00", "\xff", text(maxKey, 1), text(maxKey-1, 1)}
}

// someOp is an op by dice, right most of the time.
func someOp(dice *rand.Rand, rev int) api.Op {
	keys := fewKeys()
	key, value := keys[dice.Intn(len(keys))], text(dice.Intn(5), dice.Intn(9))
	if dice.Intn(20) == 0 {
		value = text(120+dice.Intn(137), dice.Intn(9))
	}
	switch dice.Intn(12) {
	case 0, 1, 2:
		return put(key, value)
	case 3, 4:
		return del(key)
	case 5:
		return swap(key, value, 0)
	case 6, 7:
		return swap(key, value, dice.Intn(rev+2))
	case 8, 9:
		return get(key)
	case 10:
		return seek(key + []string{"", "\x00", "\xff", "m"}[dice.Intn(4)])
	}
	wrong := wrongOps()
	return wrong[dice.Intn(len(wrong))]
}

// someRequest is a client and a seq by dice: near that client's last one most of the time, rarely none at all.
func someRequest(dice *rand.Rand, m telling) (client, seq int) {
	client = dice.Intn(maxClients)
	seq = max(m.seats[client].Seq+dice.Intn(5)-1, 1)
	switch dice.Intn(40) {
	case 0:
		return []int{-1, maxClients, 1 << 40, -1 << 62}[dice.Intn(4)], seq
	case 1:
		return client, []int{0, -1, maxSeq + 1, -1 << 62, 1 << 62}[dice.Intn(5)]
	case 2:
		return client, min(seq*100, maxSeq)
	}
	return client, seq
}
