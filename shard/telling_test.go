package shard_test

import (
	"encoding/binary"
	"hash/fnv"
	"maps"
	"slices"
	"testing"

	"haulage/api"
	"haulage/shard"
)

// telling is a shard told a second time, by the chapters' words: rows and seats stand in maps, and bytes are laid down by the library's own numbers. It may be unsound.
type telling struct {
	rev   int
	rows  map[string]api.Row
	seats map[int]api.Seat
}

// tell is the telling of these rows, at this revision, without seats.
func tell(rev int, rows ...api.Row) telling {
	m := telling{rev, map[string]api.Row{}, map[int]api.Seat{}}
	for _, r := range rows {
		m.rows[string(r.Key)] = r
	}
	return m
}

// with is a telling with these seats too.
func (m telling) with(seats ...api.Seat) telling {
	next := m.clone()
	for _, s := range seats {
		next.seats[s.Client] = s
	}
	return next
}

func (m telling) clone() telling {
	return telling{m.rev, maps.Clone(m.rows), maps.Clone(m.seats)}
}

// shardOf is the shard that is told of.
func shardOf(t *testing.T, m telling) *shard.Shard {
	t.Helper()
	return imported(t, m.form())
}

// ahead says whether key a stands ahead of b, as the chapter's words have it.
func ahead(a, b string) bool {
	for i := 0; i < len(a) && i < len(b); i++ {
		if a[i] != b[i] {
			return a[i] < b[i]
		}
	}
	return len(a) < len(b)
}

func (m telling) allRows() []api.Row {
	all := slices.Collect(maps.Values(m.rows))
	slices.SortFunc(all, func(x, y api.Row) int {
		if ahead(string(x.Key), string(y.Key)) {
			return -1
		}
		return 1
	})
	return all
}

func (m telling) allSeats() []api.Seat {
	var all []api.Seat
	for _, client := range slices.Sorted(maps.Keys(m.seats)) {
		all = append(all, m.seats[client])
	}
	return all
}

func appendNum(p []byte, n int) []byte { return binary.AppendUvarint(p, uint64(n)) }

func appendText(p, q []byte) []byte { return append(appendNum(p, len(q)), q...) }

// tableForm is the form of a table with these rows, one behind the other as they stand.
func tableForm(rev int, rows ...api.Row) []byte {
	p := appendNum(nil, rev)
	p = appendNum(p, len(rows))
	for _, r := range rows {
		p = appendText(p, r.Key)
		p = appendText(p, r.Value)
		p = appendNum(p, r.Rev)
	}
	return p
}

func appendSeat(p []byte, s api.Seat) []byte {
	p = appendNum(p, s.Client)
	p = appendNum(p, s.Seq)
	if s.Answer.Done {
		p = append(p, 1)
	} else {
		p = append(p, 0)
	}
	p = appendText(p, s.Answer.Key)
	p = appendText(p, s.Answer.Value)
	p = appendNum(p, s.Answer.Rev)
	return appendNum(p, s.Answer.At)
}

// seatsForm are the pieces of a shard's form behind the table's.
func seatsForm(seats ...api.Seat) []byte {
	p := appendNum(nil, len(seats))
	for _, s := range seats {
		p = appendSeat(p, s)
	}
	return p
}

// formOf is a shard's form out of that of a table and of seats, one behind the other as they stand.
func formOf(table []byte, seats ...api.Seat) []byte {
	return append(appendText(nil, table), seatsForm(seats...)...)
}

func (m telling) form() []byte {
	return formOf(tableForm(m.rev, m.allRows()...), m.allSeats()...)
}

func fnvOf(p []byte) uint64 {
	h := fnv.New64a()
	h.Write(p)
	return h.Sum64()
}

// digestRoot is the root of the digest tree with 64 bits, by chapter 10's words.
func digestRoot(rows []api.Row) uint64 {
	var buckets [256][]byte
	for i := range buckets {
		buckets[i] = []byte{2}
	}
	for _, r := range rows {
		p := binary.AppendVarint(appendText(appendText([]byte{1}, r.Key), r.Value), int64(r.Rev))
		b := fnvOf(r.Key) % 256
		buckets[b] = binary.LittleEndian.AppendUint64(buckets[b], fnvOf(p))
	}
	var nodes [512]uint64
	for node := 511; node > 0; node-- {
		if node >= 256 {
			nodes[node] = fnvOf(buckets[node-256])
			continue
		}
		p := binary.LittleEndian.AppendUint64([]byte{3}, nodes[2*node])
		nodes[node] = fnvOf(binary.LittleEndian.AppendUint64(p, nodes[2*node+1]))
	}
	return nodes[1]
}

func (m telling) root() uint64 {
	p := binary.LittleEndian.AppendUint64(nil, digestRoot(m.allRows()))
	p = appendNum(p, m.rev)
	return fnvOf(append(p, seatsForm(m.allSeats()...)...))
}

func isRead(op api.Op) bool { return op.Kind == api.OpGet || op.Kind == api.OpSeek }

// isRight says it by chapter 13's words.
func isRight(op api.Op) bool {
	key, value, rev := len(op.Key), len(op.Value), op.Rev
	switch op.Kind {
	case 1, 3:
		return key >= 1 && key <= 64 && value == 0 && rev == 0
	case 2:
		return key >= 1 && key <= 64 && value <= 256 && rev == 0
	case 4:
		return key >= 1 && key <= 64 && value <= 256 && rev >= 0 && rev <= 1<<40
	case 5:
		return key <= 65 && value == 0 && rev == 0
	}
	return false
}

// do is Do by the chapter's words.
func (m *telling) do(client, seq int, op api.Op) (api.Answer, bool, api.Errno) {
	if client < 0 || client > 15 || seq < 1 || seq > 1<<30 {
		return api.Answer{}, false, api.ErrArg
	}
	if !isRight(op) {
		return api.Answer{}, false, api.ErrTabOp
	}
	last := m.seats[client]
	if last.Seq > seq {
		return api.Answer{}, false, api.ErrShardOld
	}
	if last.Seq == seq {
		return last.Answer, false, api.OK
	}
	if isRead(op) {
		return m.read(op), false, api.OK
	}
	if m.rev == 1<<40 {
		return api.Answer{}, false, api.ErrTabEnd
	}
	next := m.clone()
	answer := next.write(op)
	next.seats[client] = seat(client, seq, answer)
	if len(next.form()) > 262144 {
		return api.Answer{}, false, api.ErrShardFull
	}
	*m = next
	return answer, true, api.OK
}

func (m *telling) read(op api.Op) api.Answer {
	for _, r := range m.allRows() {
		if string(r.Key) == string(op.Key) || op.Kind == api.OpSeek && ahead(string(op.Key), string(r.Key)) {
			return yes(string(r.Key), string(r.Value), r.Rev, m.rev)
		}
	}
	return no("", "", 0, m.rev)
}

func (m *telling) write(op api.Op) api.Answer {
	key := string(op.Key)
	was, found := m.rows[key]
	m.rev++
	a := api.Answer{Key: was.Key, Value: was.Value, Rev: was.Rev, At: m.rev}
	switch op.Kind {
	case api.OpPut:
		a.Done = true
	case api.OpDelete:
		a.Done = found
	case api.OpSwap:
		a.Done = was.Rev == op.Rev
	}
	if op.Kind == api.OpDelete {
		delete(m.rows, key)
	} else if a.Done {
		m.rows[key] = row(key, string(op.Value), m.rev)
	}
	return a
}
