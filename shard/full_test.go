package shard_test

import (
	"fmt"
	"testing"

	"haulage/api"
	"haulage/shard"
)

// padded is a telling to which rows are added, by keys behind all letters, till its form has just n bytes. Its revision must be 5000 or more, and n great.
func padded(m telling, n int) telling {
	m = m.clone()
	for i := range (n - len(m.form()) - 400) / len(formOfRow(padding(0, maxValue))) {
		r := padding(i, maxValue)
		m.rows[string(r.Key)] = r
	}
	left := n - len(m.form()) // of a few hundred bytes: no number's form grows any more
	for i, cost := range []int{left / 3, left / 3, left - left/3*2} {
		r := paddingOf(2000+i, cost)
		m.rows[string(r.Key)] = r
	}
	return m
}

// padding is a row with a key of its own, and a value of so many bytes.
func padding(i, value int) api.Row { return row(fmt.Sprintf("~%04d", i), text(value, i), 1000+i) }

// formOfRow are a row's pieces.
func formOfRow(r api.Row) []byte {
	return appendNum(appendText(appendText(nil, r.Key), r.Value), r.Rev)
}

// paddingOf is a row with a key of its own whose pieces have just so many bytes; the key helps out where a value's length grows by a byte.
func paddingOf(i, cost int) api.Row {
	for value := range maxValue + 1 {
		for _, more := range []string{"", "+"} {
			r := padding(i, value)
			r.Key = append(r.Key, more...)
			if len(formOfRow(r)) == cost {
				return r
			}
		}
	}
	panic("no such row")
}

// fullCase is a write that is said near the end of the room.
type fullCase struct {
	what        string
	client, seq int
	op          api.Op
}

// roomFor is a shard for the cases: rows that are long and short, seats that are long and short; all revisions of two bytes.
func roomFor() telling {
	m := tell(5000, row("a", text(100, 1), 150), row("b", "", 151), row("c", text(256, 2), 152))
	return m.with(seat(3, 127, yes("", "", 0, 4000)), seat(4, 7, no("c", text(256, 2), 152, 4001)))
}

func fullCases() []fullCase {
	return []fullCase{
		{"by the row alone, a new one", 3, 100 + 27 + 1, put("k", text(50, 1))},
		{"by a row of the greatest length", 3, 200, put(text(64, 1), text(256, 1))},
		{"by a row of the least length", 3, 200, put("k", "")},
		{"by a row and a seat", 9, 1, put("k", text(50, 1))},
		{"by a Swap's row and a seat", 9, 1, swap("k", text(50, 1), 0)},
		{"by the seat alone, of a Delete", 9, 1, del("none")},
		{"by the seat alone, of a Swap", 9, 1, swap("none", "x", 4)},
		{"by the seat alone, with a row in it", 9, 1, swap("c", "x", 4)},
		{"by a seat's seq alone", 3, 128, del("none")},
		{"by a seat's longer seq", 3, maxSeq, del("none")},
		{"by a seat that has a row now", 3, 200, swap("c", "x", 4)},
		{"by a longer value, and its seat", 3, 200, put("a", text(101, 1))},
		{"by the seat, though the row goes", 9, 1, del("c")},
		{"by the seat, though the row is shorter", 9, 1, put("c", "")},
		{"not at all: the row goes", 4, 8, del("b")},
		{"not at all: a shorter seat", 4, 8, del("none")},
		{"not at all: a row goes, its seat had another", 4, 8, del("c")},
		{"not at all: a shorter row", 4, 8, put("c", "")},
		{"not at all: the same row", 4, 8, put("c", text(256, 3))},
	}
}

// growth is by how many bytes a write makes a form longer that is near the end of the room.
func growth(c fullCase) int {
	m := padded(roomFor(), maxCopy-2000)
	before := len(m.form())
	m.do(c.client, c.seq, c.op)
	return len(m.form()) - before
}

// P14.2, P14.3: a write behind which the form has just MaxCopy bytes is done; with one more it is refused. One that makes it no longer is done in a full one.
func TestFull(t *testing.T) {
	done, refused := 0, 0
	for _, c := range fullCases() {
		by := growth(c)
		for more := -2; more <= 2; more++ {
			n := min(maxCopy-by+more, maxCopy)
			m := padded(roomFor(), n)
			wantNum(t, c.what+": the form ahead of it", len(m.form()), n)
			s := shardOf(t, m)
			wanted := api.OK
			if n+by > maxCopy {
				wanted = api.ErrShardFull
				refused++
				wantRefused(t, s, c.client, c.seq, c.op, wanted)
			} else {
				done++
			}
			wantErr(t, c.what, wantAsTold(t, c.what, s, &m, c.client, c.seq, c.op), wanted)
			wantBytes(t, c.what+": behind it", s.Export(), m.form())
			wantNum(t, c.what+": Size", s.Size(), len(m.form()))
		}
	}
	if done < 50 || refused < 25 {
		t.Fatalf("%d were done, %d refused: too few of one kind", done, refused)
	}
}

// P14.2: which of the cases make the form longer, and by how much, in plain numbers.
func TestGrowth(t *testing.T) {
	for i, wanted := range []int{56, 326, 6, 63, 63, 8, 8, 267, 1, 4, 260, 104, 5, 10, -262, -259, -262, -257, 0} {
		c := fullCases()[i]
		wantNum(t, c.what, growth(c), wanted)
	}
}

// P14.2: in a full shard reads are answered, and writes that are said again; behind a refused write the same seq may be said again.
func TestOthersInAFullShard(t *testing.T) {
	m := padded(roomFor(), maxCopy)
	s := shardOf(t, m)
	wantRefused(t, s, 3, 128, put("k", "1"), api.ErrShardFull)
	wantRefused(t, s, 9, 1, put("k", "1"), api.ErrShardFull)
	wantDo(t, s, 3, 127, put("k", "1"), yes("", "", 0, 4000), false)
	wantAfter(t, s, 3, 127, put("k", "1"), maxCopy)
	wantDo(t, s, 3, 128, get("b"), yes("b", "", 151, 5000), false)
	wantAfter(t, s, 9, 1, seek(""), maxCopy)
	wantDo(t, s, 9, 1, get("k"), no("", "", 0, 5000), false)
	wantShard(t, "behind all that", s, m)
	wantDo(t, s, 4, 8, del("b"), yes("b", "", 151, 5001), true)
	wantDo(t, s, 3, 128, put("k", "1"), yes("", "", 0, 5002), true)
	wantDo(t, s, 9, 1, put("k", "1"), yes("k", "1", 5002, 5003), true)
}

// P14.2: a new shard that is filled from empty on, as the second telling has it, one row and one seat at a time.
func TestFilledFromEmpty(t *testing.T) {
	s := shard.New()
	n, full := 0, 0
	for full < 20 && n < 2000 {
		before := s.Size()
		size, why := s.After(n%maxClients, 1+n, put(fmt.Sprintf("%05d", n), text(n%257, n)))
		_, did, err := s.Do(n%maxClients, 1+n, put(fmt.Sprintf("%05d", n), text(n%257, n)))
		wantErr(t, "Do and After", err, why)
		n++
		if err == api.ErrShardFull {
			full++
			wantNum(t, "Size behind what is refused", s.Size(), before)
			continue
		}
		wantErr(t, "Do", err, api.OK)
		wantBool(t, "done now", did, true)
		wantNum(t, "Size", s.Size(), size)
	}
	wantNum(t, "how many were refused", full, 20)
	wantNum(t, "Size", s.Size(), len(s.Export()))
	if s.Size() > maxCopy || s.Size() < maxCopy-300 {
		t.Fatalf("Size %d", s.Size())
	}
	wantBytes(t, "there and back", imported(t, s.Export()).Export(), s.Export())
}
