package record_test

import (
	"bytes"
	"encoding/binary"
	"math"
	"math/rand"
	"slices"
	"testing"

	"haulage/api"
	"haulage/record"
)

// P16.3: every form at the edges is read; P16.2: and laid down.
func TestEveryForm(t *testing.T) {
	for _, r := range soundRecords() {
		wantForm(t, r, toldForm(r))
	}
}

// P16.2: forms written out, with each number at its greatest, and each kind.
func TestFormsWrittenOut(t *testing.T) {
	key, value := text(maxKey, 1), text(maxValue, 2)
	head := []byte{1, 63, 15, 128, 128, 128, 128, 4}
	wantForm(t, write(63, 15, maxSeq, del(key)), slices.Concat(head, []byte{3, 64}, []byte(key)))
	wantForm(t, write(63, 15, maxSeq, put(key, value)), slices.Concat(head, []byte{2, 64}, []byte(key), []byte{128, 2}, []byte(value)))
	wantForm(t, write(63, 15, maxSeq, swap(key, value, maxRev)), slices.Concat(head, []byte{4, 64}, []byte(key), []byte{128, 2}, []byte(value), []byte{128, 128, 128, 128, 128, 32}))
	copied := text(maxCopy, 3)
	wantForm(t, install(63, maxEpoch, 7, copied), slices.Concat([]byte{4, 63, 128, 128, 128, 128, 4, 7, 128, 128, 16}, []byte(copied)))
	for _, kind := range []int{3, 5, 6, 7, 8} {
		for shard := range maxShards {
			wantForm(t, plain(kind, shard), []byte{byte(kind), byte(shard)})
		}
	}
	for peer := range maxServers {
		wantForm(t, offer(9, peer), []byte{2, 9, byte(peer)})
		wantForm(t, install(9, 8, peer, ""), []byte{4, 9, 8, byte(peer), 0})
	}
	for client := range maxClients {
		wantForm(t, write(9, client, 8, del("k")), []byte{1, 9, byte(client), 8, 3, 1, 107})
	}
}

// P16.3, P16.5: no beginning of a form is one, and no form with a byte more, ahead or behind.
func TestBeginningsAndMore(t *testing.T) {
	for _, r := range fewRecords() {
		form := toldForm(r)
		for n := range form {
			wantNoForm(t, form[:n])
			wantReadAsTold(t, form[n:])
		}
		for b := range 256 {
			wantNoForm(t, append(slices.Clone(form), byte(b)))
			wantReadAsTold(t, append([]byte{byte(b)}, form...))
		}
		wantNoForm(t, slices.Concat(form, form))
		wantNoForm(t, append(slices.Clone(form), make([]byte, 1000)...))
	}
	for _, r := range []api.Record{install(1, 1, 1, text(maxCopy, 1)), write(63, 15, maxSeq, swap(text(maxKey, 1), text(maxValue, 1), maxRev))} {
		form := toldForm(r)
		wantNoForm(t, form[:len(form)-1])
		wantNoForm(t, append(slices.Clone(form), 0))
	}
}

// P16.3, P16.4: each byte of a form turned into each other one: no form, or that of another record.
func TestTurnedBytes(t *testing.T) {
	for _, r := range fewRecords() {
		form := toldForm(r)
		for i := range form {
			for b := range 256 {
				turned := slices.Clone(form)
				turned[i] = byte(b)
				wantReadAsTold(t, turned)
				if back, err := record.Decode(turned); byte(b) != form[i] && err == api.OK && alike(back, r) {
					t.Fatalf("%v and %v are both of %s", form, turned, short(r))
				}
			}
		}
	}
}

// P16.3: a byte taken out of a form, put in, or two of them the other way round.
func TestBytesGoneAndCome(t *testing.T) {
	for _, r := range fewRecords() {
		form := toldForm(r)
		for i := range form {
			wantReadAsTold(t, slices.Delete(slices.Clone(form), i, i+1))
			for _, b := range []byte{0, 1, 2, 3, 4, 97, 127, 128, 129, 255} {
				wantReadAsTold(t, slices.Insert(slices.Clone(form), i, b))
			}
			if i > 0 {
				turned := slices.Clone(form)
				turned[i-1], turned[i] = turned[i], turned[i-1]
				wantReadAsTold(t, turned)
			}
		}
	}
}

// P16.3, P16.4: a number or a length that is not in its shortest form is in none.
func TestLongNumbers(t *testing.T) {
	for _, r := range fewRecords() {
		for i, one := range toldPieces(r) {
			if one.size == 0 {
				continue
			}
			for zeros := 1; zeros <= 10; zeros++ {
				number := slices.Clone(one.bytes[:one.size])
				number[one.size-1] |= 128
				number = append(number, bytes.Repeat([]byte{128}, zeros-1)...)
				number = append(number, 0)
				pieces := toldPieces(r)
				pieces[i].bytes = append(number, one.bytes[one.size:]...)
				wantNoForm(t, joined(pieces))
			}
		}
	}
}

// P16.3, P0.5: numbers out of their bounds, as far as numbers go and beyond, in each number's place; and lengths that no bytes stand behind.
func TestNumbersOutOfBounds(t *testing.T) {
	far := []uint64{8, 9, 15, 16, 17, 63, 64, 65, 127, 128, 255, 256, 257, 1<<18 + 1, 1 << 30, 1<<30 + 1, 1<<32 - 1, 1 << 32, 1<<32 + 1, 1 << 40, 1<<40 + 1, 1<<48 + 1, math.MaxInt64, 1 << 63, 1<<63 + 1, 1<<64 - 64, math.MaxUint64}
	for _, r := range fewRecords() {
		for i, one := range toldPieces(r) {
			if one.size == 0 {
				continue
			}
			for _, n := range far {
				pieces := toldPieces(r)
				pieces[i].bytes = append(binary.AppendUvarint(nil, n), one.bytes[one.size:]...)
				wantReadAsTold(t, joined(pieces))
				if n > 1<<40 {
					wantNoForm(t, joined(pieces))
				}
			}
			pieces := toldPieces(r)
			beyond := append(bytes.Repeat([]byte{255}, 9), 2) // above 2^64 - 1
			pieces[i].bytes = append(beyond, one.bytes[one.size:]...)
			wantNoForm(t, joined(pieces))
		}
	}
}

// P16.3: each number at its edges, read as the records themselves are judged.
func TestEdgesRead(t *testing.T) {
	for kind := 1; kind <= 8; kind++ {
		for name, bounds := range has(kind) {
			for _, n := range edges(bounds[0], bounds[1]) {
				r := other(kind)
				*numbers(&r)[name] = n
				if !within(n, bounds[0], bounds[1]) {
					wantNoForm(t, toldForm(r))
				} else {
					wantForm(t, r, toldForm(r))
				}
			}
		}
	}
	for _, rev := range edges(0, maxRev) {
		r := write(1, 2, 3, swap("k", "v", rev))
		if !within(rev, 0, maxRev) {
			wantNoForm(t, toldForm(r))
		}
	}
}

// P16.3: Keys and Values that are too long or too short, and ops that are reads or none, in a form that is whole else.
func TestWrongOpsRead(t *testing.T) {
	for _, op := range []api.Op{put("", "v"), del(""), swap("", "v", 1), put("", ""), put(text(65, 1), ""), del(text(65, 1)), swap(text(65, 1), "", 0), put("k", text(257, 1)), swap("k", text(257, 1), 0), swap("k", "v", maxRev+1), put(text(300, 1), text(3000, 1))} {
		wantNoForm(t, toldForm(write(0, 0, 1, op)))
		wantUnsound(t, write(0, 0, 1, op))
	}
	for kind := range 256 {
		for _, rest := range [][]byte{{}, {0}, {1, 97}, {1, 97, 0}, {1, 97, 1, 98}, {1, 97, 0, 0}, {1, 97, 1, 98, 5}, {1, 97, 1, 98, 5, 0}} {
			p := append([]byte{1, 0, 0, 1, byte(kind)}, rest...)
			wantReadAsTold(t, p)
			if !within(kind, 2, 4) {
				wantNoForm(t, p)
			}
		}
	}
}

// P16.3: the other kinds' fields behind a kind that has them not, and too few behind one that has.
func TestForeignRead(t *testing.T) {
	for kind := range 256 {
		for from := 1; from <= 8; from++ {
			for _, r := range []api.Record{one(from), other(from)} {
				p := toldForm(r)
				p[0] = byte(kind)
				wantReadAsTold(t, p)
				if !within(kind, 1, 8) {
					wantNoForm(t, p)
				}
			}
		}
	}
}

// P16.3, P0.1: all rows of few letters, up to a length, by themselves and behind the beginning of a Write and of an Install.
func TestEveryShortRow(t *testing.T) {
	letters := []byte{0, 1, 2, 3, 4, 7, 63, 128, 255}
	for _, head := range [][]byte{nil, {1, 0, 0, 1}, {1, 63, 15, 128, 1, 4}, {4, 0}, {4, 63, 128, 128, 128, 128}} {
		var grow func(p []byte, left int)
		grow = func(p []byte, left int) {
			wantReadAsTold(t, p)
			for _, b := range letters {
				if left > 0 {
					grow(append(p[:len(p):len(p)], b), left-1)
				}
			}
		}
		grow(head, 5)
	}
	for a := range 256 {
		for b := range 256 {
			wantReadAsTold(t, []byte{byte(a), byte(b)})
			wantReadAsTold(t, []byte{2, byte(a), byte(b)})
			wantReadAsTold(t, []byte{4, 1, byte(a), byte(b), 0})
			wantReadAsTold(t, []byte{1, byte(a), byte(b), 1, 3, 1, 97})
		}
	}
}

// P16.3, P0.1: bytes at random, and forms at random in which some bytes are others.
func TestAnyBytes(t *testing.T) {
	dice := rand.New(rand.NewSource(3))
	for range 100000 {
		p := make([]byte, dice.Intn(40))
		for i := range p {
			p[i] = byte(dice.Intn(1 << (1 + dice.Intn(8))))
		}
		wantReadAsTold(t, p)
		form := toldForm(anySound(dice))
		for range dice.Intn(3) {
			form[dice.Intn(len(form))] = byte(dice.Intn(256))
		}
		wantReadAsTold(t, form[:len(form)-dice.Intn(2)])
	}
	wantNoForm(t, make([]byte, 1<<22))
	wantNoForm(t, bytes.Repeat([]byte{255}, 1<<22))
	wantNoForm(t, bytes.Repeat([]byte{4}, 1<<22))
}
