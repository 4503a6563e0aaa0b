package mail_test

import (
	"bytes"
	"encoding/binary"
	"math"
	"math/rand"
	"slices"
	"testing"

	"haulage/api"
	"haulage/mail"
)

// P19.1, P19.2: every message at the edges has its form, and every form is read.
func TestEveryForm(t *testing.T) {
	for _, m := range append(soundMails(), fewMails()...) {
		wantForm(t, m, toldForm(m))
	}
}

// P19.1: forms written out, with each number at its greatest, and each kind.
func TestFormsWrittenOut(t *testing.T) {
	key, value, most := text(maxKey, 1), text(maxValue, 2), []byte{128, 128, 128, 128, 4}
	end := []byte{128, 128, 128, 128, 128, 32}
	head := slices.Concat([]byte{1, 115, 7, 63}, most)
	wantForm(t, request(15, 7, 63, maxSeq, get(key)), summed(slices.Concat(head, []byte{1, 64}, []byte(key))))
	wantForm(t, request(15, 7, 63, maxSeq, del(key)), summed(slices.Concat(head, []byte{3, 64}, []byte(key))))
	wantForm(t, request(15, 7, 63, maxSeq, seek(key+"+")), summed(slices.Concat(head, []byte{5, 65}, []byte(key+"+"))))
	wantForm(t, request(15, 7, 63, maxSeq, put(key, value)), summed(slices.Concat(head, []byte{2, 64}, []byte(key), []byte{128, 2}, []byte(value))))
	wantForm(t, request(15, 7, 63, maxSeq, swap(key, value, maxRev)), summed(slices.Concat(head, []byte{4, 64}, []byte(key), []byte{128, 2}, []byte(value), end)))
	head = slices.Concat([]byte{2, 7, 115, 63}, most)
	wantForm(t, reply(7, 15, 63, maxSeq, answer(true, key, value, maxRev, maxRev)), summed(slices.Concat(head, []byte{0, 1, 64}, []byte(key), []byte{128, 2}, []byte(value), end, end)))
	wantForm(t, reply(7, 15, 63, maxSeq, answer(false, "", "", 0, 3)), summed(slices.Concat(head, []byte{0, 0, 0, 0, 0, 3})))
	wantForm(t, refusal(7, 15, 63, maxSeq, logFull, 0), summed(append(slices.Clone(head), 181, 1)))
	wantForm(t, refusal(7, 15, 63, maxSeq, diskFull, 0), summed(append(slices.Clone(head), 182, 1)))
	copied := text(maxCopy, 3)
	wantForm(t, offer(7, 0, 63, maxEpoch, math.MaxUint64-1, copied), summed(slices.Concat([]byte{3, 7, 0, 63}, most, []byte{254, 255, 255, 255, 255, 255, 255, 255, 128, 128, 16}, []byte(copied))))
	for kind := 4; kind <= 8; kind++ {
		for shard := range maxShards {
			wantForm(t, plain(kind, 7, 6, shard, 127), summed([]byte{byte(kind), 7, 6, byte(shard), 127}))
		}
	}
	for server := range maxServers {
		for client := range maxClients {
			wantForm(t, request(client, server, 9, 8, get("k")), summed([]byte{1, byte(100 + client), byte(server), 9, 8, 1, 1, 107}))
			wantForm(t, refusal(server, client, 9, 8, wrongOwner, 7-server), summed([]byte{2, byte(server), byte(100 + client), 9, 8, 220, 1, byte(7 - server)}))
			wantForm(t, refusal(server, client, 9, 8, frozen, server), summed([]byte{2, byte(server), byte(100 + client), 9, 8, 221, 1, byte(server)}))
		}
	}
}

// P19.2: of fewer than 8 bytes nothing else is asked; of 8 and more first their sum; of more than MaxMail not even that.
func TestHowMany(t *testing.T) {
	wantRefused(t, nil, 190)
	wantRefused(t, []byte{}, 190)
	for n := range 8 {
		wantRefused(t, make([]byte, n), 190)
		wantRefused(t, bytes.Repeat([]byte{255}, n), 190)
		wantRefused(t, toldForm(plain(4, 0, 1, 0, 1))[:n], 190)
		if n >= 4 {
			wantRefused(t, summed(make([]byte, n-4)), 190)
			wantRefused(t, summed([]byte{4, 0, 1, 0}[:n-4]), 190)
		}
	}
	wantRefused(t, []byte{4, 0, 1, 0, 0, 0, 0, 0}, 191)
	wantRefused(t, make([]byte, 8), 191)
	wantRefused(t, summed([]byte{4, 0, 1, 0}), 190)
	wantRefused(t, summed(make([]byte, 4)), 190)
	wantForm(t, plain(4, 0, 1, 0, 1), summed([]byte{4, 0, 1, 0, 1}))
	wantRefused(t, []byte{4, 0, 1, 0, 1, 0, 0, 0, 0}, 191)
	for _, n := range []int{maxCopy, maxCopy + 24, maxCopy + 25, maxMail - 1, maxMail} {
		wantRefused(t, make([]byte, n), 191)
		wantRefused(t, summed(make([]byte, n-4)), 190)
	}
	for _, n := range []int{maxMail + 1, maxMail + 2, maxMail + 4, maxMail + 5, maxMail + 100, 4 * maxMail} {
		wantRefused(t, make([]byte, n), 3)
		wantRefused(t, summed(make([]byte, n-4)), 3)
		wantRefused(t, append(toldForm(plain(4, 0, 1, 0, 1)), make([]byte, n-9)...), 3)
	}
}

// P19.2: what has the right sum for another order of its bytes, or another sum, has not the sum.
func TestOtherSums(t *testing.T) {
	for _, m := range fewMails() {
		body, form := toldBody(m), toldForm(m)
		sum := form[len(body):]
		right := binary.LittleEndian.Uint32(sum)
		for _, n := range []uint32{0, math.MaxUint32, ^right, right + 1, right - 1, right << 8, right >> 8} {
			wantRefused(t, binary.LittleEndian.AppendUint32(slices.Clone(body), n), 191)
		}
		wantReadAsTold(t, binary.BigEndian.AppendUint32(slices.Clone(body), right))
		wantReadAsTold(t, slices.Concat(sum, body))
		wantReadAsTold(t, body)
		wantReadAsTold(t, append(slices.Clone(form), sum...))
		wantReadAsTold(t, summed(form))
	}
}

// P19.2: where the sum is wrong and the form too, it is the sum that is told; where there are too few bytes, or too many, it is that.
func TestOrderOfErrors(t *testing.T) {
	for _, body := range [][]byte{{0, 0, 0, 0}, {9, 0, 1, 0, 1}, {4, 0, 0, 0, 1}, {4, 0, 1, 64, 1}, {4, 0, 1, 0, 0}, {4, 0, 1, 0, 129, 0}, {1, 100, 0, 0, 1, 6, 0}} {
		form := summed(body)
		wantRefused(t, form, 190)
		for i := range form {
			turned := slices.Clone(form)
			turned[i] ^= 1
			wantRefused(t, turned, 191)
		}
		wantRefused(t, form[:7], 190)
		wantRefused(t, append(form, make([]byte, maxMail)...), 3)
	}
}

// P19.2: no beginning of a form is one, with the sum that it then ends with; nor is any end of one.
func TestBeginningsAndEnds(t *testing.T) {
	for _, m := range fewMails() {
		form := toldForm(m)
		for n := range form {
			wantReadAsTold(t, form[:n])
			wantReadAsTold(t, form[n:])
			if back, err := mail.Decode(form[:n]); err == api.OK {
				t.Fatalf("the first %d bytes of %v: %s", n, form, short(back))
			}
		}
		for b := range 256 {
			wantReadAsTold(t, append(slices.Clone(form), byte(b)))
			wantReadAsTold(t, append([]byte{byte(b)}, form...))
			wantBodyAsTold(t, append([]byte{byte(b)}, toldBody(m)...))
		}
		wantReadAsTold(t, slices.Concat(form, form))
	}
}

// P19.2, P19.3: each byte ahead of the sum turned into each other one, and the sum made anew: no form, or that of another message.
func TestTurnedBodies(t *testing.T) {
	for _, m := range fewMails() {
		body := toldBody(m)
		for i := range body {
			for b := range 256 {
				turned := slices.Clone(body)
				turned[i] = byte(b)
				wantBodyAsTold(t, turned)
				if back, err := mail.Decode(summed(turned)); byte(b) != body[i] && err == api.OK && alike(back, m) {
					t.Fatalf("%v and %v are both of %s", body, turned, short(m))
				}
			}
		}
	}
}

// P19.2: a byte taken out of a body, put in, or two of them the other way round.
func TestBytesGoneAndCome(t *testing.T) {
	for _, m := range fewMails() {
		body := toldBody(m)
		for i := range body {
			wantBodyAsTold(t, slices.Delete(slices.Clone(body), i, i+1))
			for _, b := range []byte{0, 1, 2, 3, 4, 97, 100, 127, 128, 129, 255} {
				wantBodyAsTold(t, slices.Insert(slices.Clone(body), i, b))
			}
			if i > 0 {
				turned := slices.Clone(body)
				turned[i-1], turned[i] = turned[i], turned[i-1]
				wantBodyAsTold(t, turned)
			}
		}
	}
}

// P19.2, P19.3: a number or a length that is laid down longer than it need be is in no form.
func TestLongNumbers(t *testing.T) {
	for _, m := range fewMails() {
		for i, one := range toldPieces(m) {
			if one.size == 0 {
				continue
			}
			for zeros := 1; zeros <= 10; zeros++ {
				number := slices.Clone(one.bytes[:one.size])
				number[one.size-1] |= 128
				number = append(number, bytes.Repeat([]byte{128}, zeros-1)...)
				number = append(number, 0)
				pieces := toldPieces(m)
				pieces[i].bytes = append(number, one.bytes[one.size:]...)
				wantNoForm(t, joined(pieces))
			}
		}
	}
}

// P19.2, P0.5: numbers out of their bounds, as far as numbers go and beyond, in each number's place; and lengths that no bytes stand behind.
func TestNumbersOutOfBounds(t *testing.T) {
	far := []uint64{8, 9, 15, 16, 17, 63, 64, 65, 127, 128, 180, 181, 182, 183, 219, 220, 221, 222, 255, 256, 257, 1<<18 + 1, 1 << 30, 1<<30 + 1, 1<<32 - 1, 1 << 32, 1<<32 + 1, 1<<32 + 181, 1 << 40, 1<<40 + 1, 1<<48 + 1, math.MaxInt64, 1 << 63, 1<<63 + 1, 1<<64 - 64, math.MaxUint64}
	for _, m := range fewMails() {
		for i, one := range toldPieces(m) {
			if one.size == 0 {
				continue
			}
			for _, n := range far {
				pieces := toldPieces(m)
				pieces[i].bytes = append(binary.AppendUvarint(nil, n), one.bytes[one.size:]...)
				wantBodyAsTold(t, joined(pieces))
				if n > 1<<40 {
					wantNoForm(t, joined(pieces))
				}
			}
			pieces := toldPieces(m)
			beyond := append(bytes.Repeat([]byte{255}, 9), 2) // above 2^64 - 1
			pieces[i].bytes = append(beyond, one.bytes[one.size:]...)
			wantNoForm(t, joined(pieces))
		}
	}
}

// P19.2: each number at its edges, read as the messages themselves are judged.
func TestEdgesRead(t *testing.T) {
	for shape := range shapes {
		for name, bounds := range has(shape) {
			for _, m := range []api.Mail{one(shape), other(shape)} {
				for _, n := range edges(bounds[0], bounds[1]) {
					*numbers(&m)[name] = n
					if name == "hint" && !within(n, 0, 255) {
						continue // it is but a byte there
					}
					if toldSound(m) {
						wantForm(t, m, toldForm(m))
					} else {
						wantNoForm(t, toldBody(m))
					}
				}
			}
		}
	}
}

// P19.2: each byte in the place of each name, and of both, read as the messages themselves are judged.
func TestNamesRead(t *testing.T) {
	for shape := range shapes {
		body, sound := toldBody(other(shape)), 0
		for from := range 256 {
			for to := range 256 {
				body[1], body[2] = byte(from), byte(to)
				wantBodyAsTold(t, body)
				if _, err := mail.Decode(summed(body)); err == api.OK {
					sound++
				}
			}
		}
		if wanted := map[bool]int{true: 128, false: 56}[shape < 10]; sound != wanted {
			t.Errorf("shape %d: %d pairs of names; wanted %d", shape, sound, wanted)
		}
	}
}

// P19.2: for Done a byte is 0 or 1.
func TestDoneRead(t *testing.T) {
	for b := range 256 {
		body := []byte{2, 1, 103, 5, 172, 2, 0, byte(b), 1, 97, 1, 9, 2, 4}
		if b > 1 {
			wantNoForm(t, body)
			wantNoForm(t, []byte{2, 0, 100, 0, 1, 0, byte(b), 0, 0, 0, 0})
			continue
		}
		wantForm(t, reply(1, 3, 5, 300, answer(b == 1, "a", "\x09", 2, 4)), summed(body))
	}
}

// P19.2: each byte in the place of a hint.
func TestHintRead(t *testing.T) {
	for b := range 256 {
		for _, verdict := range []api.Errno{wrongOwner, frozen} {
			body := []byte{2, 1, 103, 5, 172, 2, byte(verdict), 1, byte(b)}
			if b > 7 {
				wantNoForm(t, body)
				continue
			}
			wantForm(t, refusal(1, 3, 5, 300, verdict, b), summed(body))
		}
	}
}

// P19.2: each verdict of one byte or two, with what stands behind those that may be.
func TestVerdictsRead(t *testing.T) {
	for verdict := range 1000 {
		for _, rest := range [][]byte{{}, {0}, {1}, {8}, {0, 0, 0, 0, 0}, {1, 1, 97, 0, 0, 0}, {1, 1, 97, 1, 98, 1, 1}} {
			body := append(binary.AppendUvarint([]byte{2, 1, 103, 5, 9}, uint64(verdict)), rest...)
			wantBodyAsTold(t, body)
			if verdict != isDone && verdict != logFull && verdict != diskFull && verdict != wrongOwner && verdict != frozen {
				wantNoForm(t, body)
			}
		}
	}
}

// P19.2: answers that are not fit, in a form that is whole else.
func TestUnfitRead(t *testing.T) {
	for _, a := range []api.Answer{
		answer(true, "", "v", 0, 1), answer(true, "", "", 1, 1), answer(true, "k", "v", 2, 1), answer(true, "k", "", 1, 0), answer(false, text(65, 1), "", 0, 0),
		answer(false, "k", text(257, 1), 0, 0), answer(false, "k", "", 0, maxRev+1), answer(false, "k", "", maxRev+1, maxRev+1), answer(false, "", "", 0, maxRev+1),
		answer(true, text(300, 1), text(3000, 1), 1, 1), answer(true, "k", "", math.MinInt, 1), answer(true, "k", "", 0, -1), answer(true, "k", "", -2, -1), answer(true, "k", "", -1, math.MaxInt),
	} {
		wantNoForm(t, toldBody(reply(0, 0, 0, 1, a)))
		wantUnsound(t, reply(0, 0, 0, 1, a))
	}
}

// P19.2: Keys and Values that are too long or too short, and ops that are none, in a form that is whole else.
func TestWrongOpsRead(t *testing.T) {
	for _, op := range []api.Op{
		get(""), put("", "v"), del(""), swap("", "v", 1), put("", ""), get(text(65, 1)), put(text(65, 1), ""), del(text(65, 1)), swap(text(65, 1), "", 0), seek(text(66, 1)),
		put("k", text(257, 1)), swap("k", text(257, 1), 0), swap("k", "v", maxRev+1), swap("k", "v", -1), put(text(300, 1), text(3000, 1)),
	} {
		wantNoForm(t, toldBody(request(0, 0, 0, 1, op)))
		wantUnsound(t, request(0, 0, 0, 1, op))
	}
	for kind := range 256 {
		for _, rest := range [][]byte{{}, {0}, {0, 0}, {1, 97}, {1, 97, 0}, {1, 97, 1, 98}, {1, 97, 0, 0}, {1, 97, 1, 98, 5}, {1, 97, 1, 98, 5, 0}} {
			body := append([]byte{1, 100, 0, 0, 1, byte(kind)}, rest...)
			wantBodyAsTold(t, body)
			if !within(kind, 1, 5) {
				wantNoForm(t, body)
			}
		}
	}
}

// P19.2: a copy that is too long, in a form that is whole else.
func TestLongCopiesRead(t *testing.T) {
	for _, n := range []int{maxCopy + 1, maxCopy + 2, maxCopy + 100, maxMail - 24} {
		wantNoForm(t, toldBody(offer(0, 1, 2, 3, 4, text(n, n))))
	}
	wantRefused(t, toldForm(offer(0, 1, 2, 3, 4, text(maxMail, 1))), 3)
}

// P19.2: the other kinds' fields behind a kind that has them not, and too few behind one that has.
func TestForeignRead(t *testing.T) {
	for kind := range 256 {
		for shape := range shapes {
			for _, m := range []api.Mail{one(shape), other(shape)} {
				for _, names := range [][2]byte{{byte(m.From), byte(m.To)}, {100, 1}, {1, 100}, {1, 2}} {
					body := toldBody(m)
					body[0], body[1], body[2] = byte(kind), names[0], names[1]
					wantBodyAsTold(t, body)
					if !within(kind, 1, 8) {
						wantNoForm(t, body)
					}
				}
			}
		}
	}
}

// P19.2, P0.1: all rows of few letters, up to a length, by themselves and behind the beginnings of messages.
func TestEveryShortRow(t *testing.T) {
	letters := []byte{0, 1, 2, 3, 4, 7, 63, 128, 255}
	heads := [][]byte{nil, {1, 100, 0, 0}, {1, 115, 7, 63, 1, 4}, {2, 0, 100, 0}, {2, 7, 115, 1, 1, 0}, {2, 7, 115, 1, 1, 221}, {3, 0, 1, 0}, {3, 1, 0, 2, 1, 1, 2, 3, 4, 5, 6}, {4, 0, 1, 0}, {8, 1, 0}}
	for _, head := range heads {
		var grow func(p []byte, left int)
		grow = func(p []byte, left int) {
			wantBodyAsTold(t, p)
			for _, b := range letters {
				if left > 0 {
					grow(append(p[:len(p):len(p)], b), left-1)
				}
			}
		}
		grow(head, 5)
	}
}

// P19.2, P0.1: bytes at random, and bodies at random in which some bytes are others, with their sum and with any.
func TestAnyBytes(t *testing.T) {
	dice := rand.New(rand.NewSource(3))
	for range 100000 {
		p := make([]byte, dice.Intn(40))
		for i := range p {
			p[i] = byte(dice.Intn(1 << (1 + dice.Intn(8))))
		}
		wantReadAsTold(t, p)
		wantBodyAsTold(t, p)
		body := toldBody(anySound(dice))
		for range dice.Intn(3) {
			body[dice.Intn(len(body))] = byte(dice.Intn(256))
		}
		body = body[:len(body)-dice.Intn(2)]
		wantBodyAsTold(t, body)
		wantReadAsTold(t, body)
	}
	wantNoForm(t, bytes.Repeat([]byte{255}, maxMail-4))
	wantNoForm(t, bytes.Repeat([]byte{3}, maxMail-4))
}
