package shard_test

import (
	"bytes"
	"encoding/binary"
	"fmt"
	"math"
	"slices"
	"testing"

	"haulage/api"
	"haulage/shard"
)

// looseReader takes pieces up without asking much: numbers in any form, texts as long as there are bytes. What it makes of bytes that are no form at all is of no use.
type looseReader struct{ left []byte }

func (r *looseReader) num() uint64 {
	n, k := binary.Uvarint(r.left)
	if k <= 0 { // there is no number: what follows is of no use
		k = len(r.left)
	}
	r.left = r.left[k:]
	return n
}

func (r *looseReader) text() []byte {
	n := min(r.num(), uint64(len(r.left)))
	p := r.left[:n]
	r.left = r.left[n:]
	return p
}

func (r *looseReader) byte() byte {
	if len(r.left) == 0 {
		return 0
	}
	b := r.left[0]
	r.left = r.left[1:]
	return b
}

// loose are the table's revision and rows, and the seats, that bytes tell of.
func loose(p []byte) (int, []api.Row, []api.Seat) {
	r := &looseReader{p}
	in := &looseReader{r.text()}
	rev := int(in.num())
	var rows []api.Row
	for count := in.num(); count > 0 && len(in.left) > 0; count-- {
		key, value := in.text(), in.text()
		rows = append(rows, api.Row{Key: key, Value: value, Rev: int(in.num())})
	}
	var seats []api.Seat
	for count := r.num(); count > 0 && len(r.left) > 0; count-- {
		s := api.Seat{Client: int(r.num()), Seq: int(r.num())}
		s.Answer.Done = r.byte() == 1
		s.Answer.Key, s.Answer.Value = r.text(), r.text()
		s.Answer.Rev, s.Answer.At = int(r.num()), int(r.num())
		seats = append(seats, s)
	}
	return rev, rows, seats
}

// areSoundRows says it by chapter 13's words; the keys in order, too.
func areSoundRows(rev int, rows []api.Row) bool {
	if rev < 0 || rev > 1<<40 {
		return false
	}
	for i, r := range rows {
		if len(r.Key) < 1 || len(r.Key) > 64 || len(r.Value) > 256 || r.Rev < 1 || r.Rev > rev {
			return false
		}
		for _, other := range rows[:i] {
			if other.Rev == r.Rev || !ahead(string(other.Key), string(r.Key)) {
				return false
			}
		}
	}
	return true
}

// areSoundSeats says it by the chapter's words.
func areSoundSeats(rev int, seats []api.Seat) bool {
	for i, s := range seats {
		a := s.Answer
		if s.Client < 0 || s.Client > 15 || s.Seq < 1 || s.Seq > 1<<30 || a.At < 1 || a.At > rev {
			return false
		}
		if len(a.Key) > 64 || len(a.Value) > 256 || a.Rev < 0 || a.Rev >= a.At {
			return false
		}
		if len(a.Key) == 0 && (len(a.Value) > 0 || a.Rev != 0) || len(a.Key) > 0 && a.Rev < 1 {
			return false
		}
		for _, other := range seats[:i] {
			if other.Client >= s.Client || other.Answer.At == a.At {
				return false
			}
		}
	}
	return true
}

// isForm says whether p is the form of a sound shard: the one that p tells of, if it is one, and if p is its form.
func isForm(p []byte) bool {
	rev, rows, seats := loose(p)
	return bytes.Equal(formOf(tableForm(rev, rows...), seats...), p) && areSoundRows(rev, rows) && areSoundSeats(rev, seats) && len(p) <= 262144
}

// wantImportByWords holds Import against the words, and what it makes against what was imported.
func wantImportByWords(t *testing.T, p []byte) bool {
	t.Helper()
	if !isForm(p) {
		wantNotImported(t, "no form of a sound shard", p)
		return false
	}
	s := imported(t, p)
	rev, rows, seats := loose(p)
	wantBytes(t, "Export of Import", s.Export(), p)
	wantNum(t, "Size of Import", s.Size(), len(p))
	wantNum(t, "Rev of Import", s.Rev(), rev)
	wantNum(t, "Len of Import", s.Len(), len(rows))
	if toldRows(s.Rows()) != toldRows(rows) || toldSeats(s.Seats()) != toldSeats(seats) {
		t.Fatalf("Import(%v): %s, %s", p, toldRows(s.Rows()), toldSeats(s.Seats()))
	}
	return true
}

// wantForm asks whether these rows and seats, at this revision, are a form that is imported.
func wantForm(t *testing.T, what string, rev int, rows []api.Row, seats []api.Seat, wanted bool) {
	t.Helper()
	wantBool(t, what, wantImportByWords(t, formOf(tableForm(rev, rows...), seats...)), wanted)
}

// sixteen are seats of all clients, sound at the revision 300 or more, with answers of many kinds.
func sixteen() []api.Seat {
	var seats []api.Seat
	for client := range maxClients {
		at := 300 - 7*client
		switch client % 4 {
		case 0:
			seats = append(seats, seat(client, 1+client*client*1000, yes("", "", 0, at)))
		case 1:
			seats = append(seats, seat(client, maxSeq-client, no("", "", 0, at)))
		case 2:
			seats = append(seats, seat(client, 1, yes(text(4*client, client), text(18*client, client), at-1, at)))
		case 3:
			seats = append(seats, seat(client, 128, no("k", "", 1, at)))
		}
	}
	return seats
}

// someRows are sound rows at the revision 10 or more.
func someRows() []api.Row {
	return []api.Row{row("a", "3", 5), row("b", "", 2), row("ba", text(200, 1), 7), row(text(64, 4), text(256, 1), 10)}
}

// P14.1: the forms of sound shards with no seat, one and sixteen, with rows and without.
func TestImportOfSound(t *testing.T) {
	for _, rows := range [][]api.Row{nil, {row("a", "1", 1)}, someRows()} {
		for _, rev := range []int{300, 301, 16384, maxRev - 1, maxRev} {
			wantForm(t, "no seat", rev, rows, nil, true)
			wantForm(t, "sixteen seats", rev, rows, sixteen(), true)
			for _, s := range sixteen() {
				wantForm(t, "one seat", rev, rows, []api.Seat{s}, true)
			}
			for n := range 17 {
				wantForm(t, "some seats", rev, rows, sixteen()[n:], true)
				wantForm(t, "some seats", rev, rows, sixteen()[:n], true)
			}
			m := tell(rev, rows...).with(sixteen()...)
			wantShard(t, "all seats", shardOf(t, m), m)
		}
	}
	wantShard(t, "of nothing", imported(t, []byte{2, 0, 0, 0}), tell(0))
}

// P14.1: all bytes of few letters, up to a length at which shards with a seat are among them.
func TestImportOfAllShortBytes(t *testing.T) {
	sounds := 0
	for most, letters := range map[int]string{11: "\x00\x01\x02", 7: "\x00\x01\x02\x03\x80"} {
		var grow func(p []byte)
		grow = func(p []byte) {
			if wantImportByWords(t, p) {
				sounds++
			}
			if len(p) == most {
				return
			}
			for _, b := range []byte(letters) {
				grow(append(slices.Clone(p), b))
			}
		}
		grow(nil)
	}
	if sounds < 20 {
		t.Fatalf("only %d sound shards were among them", sounds)
	}
}

// P14.1: each beginning of a form, a form with a byte behind it or ahead, and each byte of one turned into each other.
func TestImportOfSpoiltForms(t *testing.T) {
	for what, form := range map[string][]byte{
		"new":           {2, 0, 0, 0},
		"the examples'": {2, 3, 0, 2, 0, 9, 0, 0, 0, 0, 3, 3, 2, 1, 1, 97, 1, 49, 1, 2},
		"with rows":     formOf(tableForm(8, row("a", "3", 5), row("b", "", 2)), seat(2, 300, yes("c", "xy", 3, 8)), seat(15, 1, no("", "", 0, 1))),
		"many seats":    formOf(tableForm(300, someRows()[:2]...), sixteen()[:3]...),
	} {
		wantBool(t, what, wantImportByWords(t, form), true)
		for n := range form {
			wantNotImported(t, what+", cut off", form[:n])
		}
		for b := range 256 {
			wantNotImported(t, what+", a byte behind", append(slices.Clone(form), byte(b)))
			wantImportByWords(t, append([]byte{byte(b)}, form...))
			for i := range form {
				p := slices.Clone(form)
				p[i] = byte(b)
				wantImportByWords(t, p)
			}
		}
	}
}

// P14.1: two bytes of the form of two seats turned at once, into those at which something is decided.
func TestImportOfTwiceSpoiltForms(t *testing.T) {
	form := []byte{2, 3, 0, 2, 0, 9, 0, 0, 0, 0, 3, 3, 2, 1, 1, 97, 1, 49, 1, 2}
	sounds := 0
	letters := []byte{0, 1, 2, 3, 4, 15, 16, 128}
	for i := range form {
		for j := range i {
			for _, x := range letters {
				for _, y := range letters {
					p := slices.Clone(form)
					p[i], p[j] = x, y
					if wantImportByWords(t, p) {
						sounds++
					}
				}
			}
		}
	}
	if sounds < 100 {
		t.Fatalf("only %d sound shards were among them", sounds)
	}
}

// P14.1: numbers that are not in their form, each number of a shard.
func TestImportOfLongNumbers(t *testing.T) {
	good := []byte{7, 5, 1, 1, 97, 1, 98, 3, 1, 4, 9, 1, 1, 97, 1, 49, 2, 5}
	wantBool(t, "as it should be", wantImportByWords(t, good), true)
	numbers := map[string]int{"the table's length": 0, "how many seats": 8, "a client": 9, "a seq": 10, "a key's length": 12, "a value's length": 14, "a Rev": 16, "an At": 17}
	for what, i := range numbers {
		p := slices.Insert(slices.Clone(good), i+1, 0)
		p[i] |= 128
		wantNotImported(t, what+" in two bytes", p)
		p = slices.Insert(slices.Clone(good), i, 255, 255, 255, 255, 255, 255, 255, 255, 255)
		wantNotImported(t, what+" beyond 64 bits", p)
		for _, n := range []uint64{1 << 62, 1 << 63, 1<<63 + uint64(good[i]), math.MaxUint64} {
			p = append(slices.Clone(good[:i]), binary.AppendUvarint(nil, n)...)
			wantNotImported(t, what+" too great", append(p, good[i+1:]...))
		}
	}
	wantNotImported(t, "the revision in two bytes", []byte{8, 133, 0, 1, 1, 97, 1, 98, 3, 1, 4, 9, 1, 1, 97, 1, 49, 2, 5})
}

// P14.1: a table's form that is not sound, in a shard that is one else.
func TestImportOfWrongTables(t *testing.T) {
	for what, table := range map[string][]byte{
		"none":                 {},
		"a byte":               {5},
		"a byte behind":        {5, 0, 0},
		"a Rev above":          {8, 1, 1, 97, 0, 9},
		"a Rev of 0":           {8, 1, 1, 97, 0, 0},
		"a key twice":          {8, 2, 1, 97, 0, 1, 1, 97, 0, 2},
		"a Rev twice":          {8, 2, 1, 97, 0, 1, 1, 98, 0, 1},
		"a key of no bytes":    {8, 1, 0, 0, 1},
		"keys out of order":    {8, 2, 1, 98, 0, 1, 1, 97, 0, 2},
		"a revision too great": tableForm(maxRev + 1),
		"a key too long":       tableForm(8, row(text(65, 1), "", 1)),
		"a value too long":     tableForm(8, row("a", text(257, 1), 1)),
		"a row too few":        {8, 2, 1, 97, 0, 1},
		"a row too many":       {8, 0, 1, 97, 0, 1},
	} {
		wantNotImported(t, what, formOf(table))
		wantNotImported(t, what+", with a seat", formOf(table, seat(0, 1, no("", "", 0, 1))))
	}
}

// P14.1: more seats than the number says, or fewer, or more than any bytes hold.
func TestImportOfWrongCounts(t *testing.T) {
	for _, n := range []int{0, 1, 2, 15, 16} {
		for _, count := range []uint64{0, 1, 2, 3, 14, 15, 16, 17, 18, 127, 128, 1 << 20, 1 << 32, 1 << 40, 1<<63 - 1, 1 << 63, math.MaxUint64} {
			p := binary.AppendUvarint(appendText(nil, tableForm(300)), count)
			for _, s := range sixteen()[:n] {
				p = appendSeat(p, s)
			}
			wantBool(t, fmt.Sprintf("%d seats, count %d", n, count), wantImportByWords(t, p), uint64(n) == count)
		}
	}
	again := append(sixteen(), seat(15, 1, no("", "", 0, 299)))
	wantForm(t, "seventeen seats, the last client twice", 300, nil, again, false)
	wantForm(t, "seventeen seats, a client too many", 300, nil, append(sixteen(), seat(16, 1, no("", "", 0, 299))), false)
	wantForm(t, "seventeen seats, the first client again", 300, nil, append(sixteen(), seat(0, 1, no("", "", 0, 299))), false)
}

// P14.1: clients that do not rise, come twice, or are none.
func TestImportOfClients(t *testing.T) {
	for a := range 18 {
		for b := range 18 {
			seats := []api.Seat{seat(a, 1, no("", "", 0, 1)), seat(b, 1, no("", "", 0, 2))}
			wantForm(t, fmt.Sprintf("clients %d, %d", a, b), 9, nil, seats, a < b && b < 16)
		}
	}
	for i := range 15 {
		turned := sixteen()
		turned[i], turned[i+1] = turned[i+1], turned[i]
		wantForm(t, "two turned about", 300, nil, turned, false)
	}
	for _, client := range []int{15, 16, 17, 127, 128, 255, 256, 271, 1 << 32, 1<<32 + 1, 1<<63 - 1, -1 << 63, -1} {
		wantForm(t, fmt.Sprint("client ", client), 9, nil, []api.Seat{seat(client, 1, no("", "", 0, 1))}, client == 15)
	}
}

// P14.1: seqs at their bounds and beyond, at the first, a middle and the last seat.
func TestImportOfSeqs(t *testing.T) {
	for _, i := range []int{0, 7, 15} {
		for _, seq := range []int{0, 1, 2, 127, 128, maxSeq - 1, maxSeq, maxSeq + 1, maxSeq + 2, 1 << 31, 1 << 32, 1<<32 + 1, 1<<63 - 1, -1 << 63, -1} {
			seats := sixteen()
			seats[i].Seq = seq
			wantForm(t, fmt.Sprint("seq ", seq), 300, nil, seats, seq >= 1 && seq <= maxSeq)
		}
	}
}

// P14.1: a Done that is neither 0 nor 1, in a seat with a row and without.
func TestImportOfDone(t *testing.T) {
	for b := range 256 {
		wantBool(t, fmt.Sprint("Done ", b), wantImportByWords(t, []byte{2, 9, 0, 1, 0, 1, byte(b), 0, 0, 0, 9}), b < 2)
		wantBool(t, fmt.Sprint("Done ", b), wantImportByWords(t, []byte{2, 9, 0, 1, 15, 1, byte(b), 1, 97, 1, 98, 1, 9}), b < 2)
	}
}

// P14.1: a Key or a Value too long, at the first, a middle and the last seat.
func TestImportOfLengths(t *testing.T) {
	for _, i := range []int{2, 6, 14} {
		for _, n := range []int{1, 63, 64, 65, 66, 127, 128, 300} {
			seats := sixteen()
			seats[i].Answer.Key = []byte(text(n, 1))
			wantForm(t, fmt.Sprintf("a Key of %d bytes", n), 300, nil, seats, n <= 64)
		}
		for _, n := range []int{0, 1, 127, 128, 255, 256, 257, 300, 16384} {
			seats := sixteen()
			seats[i].Answer.Value = []byte(text(n, 1))
			wantForm(t, fmt.Sprintf("a Value of %d bytes", n), 300, nil, seats, n <= 256)
		}
	}
}

// P14.1: a Value or a Rev without a Key, a Key with Rev 0, a Rev that is not below its At; each Done or not.
func TestImportOfAnswers(t *testing.T) {
	for _, done := range []bool{true, false} {
		for _, key := range []string{"", "k"} {
			for _, value := range []string{"", "v"} {
				for rev := range 10 {
					for at := range 10 {
						a := api.Answer{Done: done, Key: []byte(key), Value: []byte(value), Rev: rev, At: at}
						ok := at >= 1 && at <= 7 && (key != "" && rev >= 1 && rev < at || key == "" && value == "" && rev == 0)
						wantForm(t, told(a), 7, nil, []api.Seat{seat(4, 1, a)}, ok)
					}
				}
			}
		}
	}
	for _, rev := range []int{1, maxRev - 2, maxRev - 1, maxRev, maxRev + 1, 1<<63 - 1, -1 << 63, -1} {
		wantForm(t, fmt.Sprint("Rev ", rev), maxRev, nil, []api.Seat{seat(4, 1, yes("k", "", rev, maxRev))}, rev >= 1 && rev < maxRev)
	}
}

// P14.1: an At of 0, above the revision, or twice, wherever the two stand.
func TestImportOfAts(t *testing.T) {
	for _, rev := range []int{1, 5, 127, 128, maxRev} {
		for _, at := range []int{0, 1, rev - 1, rev, rev + 1, rev + 2, maxRev, maxRev + 1, 1<<63 - 1, -1 << 63, -1} {
			wantForm(t, fmt.Sprintf("At %d at revision %d", at, rev), rev, nil, []api.Seat{seat(4, 1, no("", "", 0, at))}, at >= 1 && at <= rev)
		}
	}
	wantForm(t, "a seat at revision 0", 0, nil, []api.Seat{seat(0, 1, no("", "", 0, 0))}, false)
	for i := range 16 {
		for j := range 16 {
			var seats []api.Seat
			for client := range 16 {
				seats = append(seats, seat(client, 1, no("", "", 0, 1+client)))
			}
			seats[i].Answer.At = seats[j].Answer.At
			wantForm(t, "an At of another seat", 16, nil, seats, i == j)
		}
	}
}

// P14.1: a seat's At may be a row's Rev or not, and a seat may tell of a row that is not there.
func TestImportOfSeatsBesideRows(t *testing.T) {
	rows := []api.Row{row("a", "1", 2), row("b", "2", 3)}
	for at := 2; at <= 4; at++ {
		wantForm(t, "a seat beside rows", 4, rows, []api.Seat{seat(0, 1, yes("a", "0", 1, at))}, true)
		wantForm(t, "a seat beside rows", 4, rows, []api.Seat{seat(0, 1, no("z", "9", 1, at))}, true)
	}
}

// P14.1: a form of just MaxCopy bytes is one, of one more it is none; its end may be a row or a seat.
func TestImportOfGreatestForms(t *testing.T) {
	for _, m := range []telling{tell(5000), tell(5000).with(sixteen()...), tell(maxRev).with(sixteen()[:1]...)} {
		for _, n := range []int{maxCopy - 1, maxCopy, maxCopy + 1, maxCopy + 2, maxCopy + 1000} {
			form := padded(m, n).form()
			wantNum(t, "the form", len(form), n)
			wantBool(t, fmt.Sprintf("a form of %d bytes", n), wantImportByWords(t, form), n <= maxCopy)
		}
	}
	full := padded(tell(5000), maxCopy)
	wantNotImported(t, "a seat more", full.with(seat(0, 1, no("", "", 0, 1))).form())
	wantNotImported(t, "a byte behind", append(full.form(), 0))
	wantNotImported(t, "zeros", make([]byte, maxCopy))
	wantNotImported(t, "many zeros", make([]byte, 1<<22))
}

// P14.1: no bytes at all.
func TestImportOfNothing(t *testing.T) {
	wantNotImported(t, "nil", nil)
	wantNotImported(t, "empty", []byte{})
	wantNotImported(t, "a table of nothing", []byte{0})
	wantNotImported(t, "a table of nothing, no seats", []byte{0, 0})
	s, err := shard.Import([]byte{2, 0, 0, 0})
	wantErr(t, "an empty shard", err, api.OK)
	wantShard(t, "an empty shard", s, tell(0))
}
