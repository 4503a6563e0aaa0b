package bag_test

import (
	"bytes"
	"runtime"
	"testing"

	"haulage/api"
	"haulage/bag"
)

// spoil writes over some data, and over the room behind it: each time with other bytes.
func spoil(p []byte) {
	p = p[:cap(p)]
	for i := range p {
		p[i] += 85
	}
}

// spoilLetters writes over a list of letters, their data included, and over the room behind it.
func spoilLetters(l []api.Letter) {
	l = l[:cap(l)]
	for i := range l {
		spoil(l[i].Data)
		l[i] = api.Letter{Number: -1, From: -1, To: -1}
	}
}

// spoilNumbers writes over a list of numbers, and over the room behind it.
func spoilNumbers(l []int) {
	l = l[:cap(l)]
	for i := range l {
		l[i] = -1
	}
}

// roomy is some data with room behind it, and all of that memory.
func roomy(p []byte) (list, all []byte) {
	all = append(bytes.Clone(p), "behind"...)
	return all[:len(p)], all
}

// severalData is data of some lengths.
func severalData() [][]byte {
	return [][]byte{nil, []byte("a"), text(8, 1), text(31, 2), text(32, 3), text(33, 4), text(5000, 5), text(maxMail, 6)}
}

// P20.6, P0.4: data that is handed in, and the room behind it, stays as it is, and is not kept: written over afterwards it changes no message.
func TestDataHandedIn(t *testing.T) {
	for _, data := range severalData() {
		b := fresh(t)
		handed, memory := roomy(data)
		was := bytes.Clone(memory)
		send(t, b, 1, 2, handed, 0)
		twice(t, b, 0, 1)
		wantUnchanged(t, memory, was)
		spoil(handed)
		was = bytes.Clone(memory)
		wantLetters(t, "Waiting", b.Waiting(), letter(0, 1, 2, data), letter(1, 1, 2, data))
		spoilLetters(b.Waiting())
		twice(t, b, 1, 2)
		for number := range 3 {
			got, _ := b.Deliver(number)
			wantLetter(t, "Deliver", got, letter(number, 1, 2, data))
			spoil(got.Data)
		}
		wantUnchanged(t, memory, was)
	}
}

// wantUnchanged asks for data that was handed in, with the room behind it, as it was.
func wantUnchanged(t *testing.T, memory, was []byte) {
	t.Helper()
	if !bytes.Equal(memory, was) {
		t.Fatalf("the data that was handed in is %s, was %s", start(memory), start(was))
	}
}

// P20.6: data that is refused, or lost, stays as it is, too.
func TestRefusedData(t *testing.T) {
	b := full(t, 0)
	for _, c := range []struct{ from, to, size, err int }{{-1, 0, 9, errArg}, {0, -1, 9, errArg}, {0, 0, maxMail + 1, errLong}, {0, 0, 9, errMany}} {
		handed, memory := roomy(text(c.size, 1))
		was := bytes.Clone(memory)
		wantNoSend(t, b, c.from, c.to, handed, c.err)
		wantUnchanged(t, memory, was)
	}
}

// P20.6: the room behind data counts for nothing.
func TestSpareRoomUnsent(t *testing.T) {
	b := fresh(t)
	all := text(maxMail+1, 1)
	send(t, b, 1, 2, all[:3], 0)
	send(t, b, 1, 2, all[:maxMail], 1)
	send(t, b, 1, 2, all[:0], 2)
	deliver(t, b, letter(0, 1, 2, all[:3:3]))
	deliver(t, b, letter(1, 1, 2, all[:maxMail:maxMail]))
	deliver(t, b, letter(2, 1, 2, nil))
}

// P20.6: one list, changed between two Sends, makes two unlike messages; the same bytes sent twice are answered apart.
func TestOneListSentTwice(t *testing.T) {
	b := fresh(t)
	data := text(40, 1)
	send(t, b, 1, 2, data, 0)
	send(t, b, 1, 2, data, 1)
	copy(data, text(40, 2))
	send(t, b, 1, 2, data, 2)
	copy(data, text(40, 3))
	first, _ := b.Deliver(0)
	spoil(first.Data)
	wantLetters(t, "Waiting", b.Waiting(), letter(1, 1, 2, text(40, 1)), letter(2, 1, 2, text(40, 2)))
	second, _ := b.Deliver(1)
	spoil(first.Data)
	wantLetter(t, "the other", second, letter(1, 1, 2, text(40, 1)))
}

// P20.6, P0.4: no two lists of one answer share memory: each data written over leaves that of the other letters, doubles among them.
func TestDataOfOneAnswerApart(t *testing.T) {
	for _, data := range severalData()[:7] {
		b := fresh(t)
		send(t, b, 1, 2, data, 0)
		send(t, b, 1, 2, data, 1)
		twice(t, b, 0, 2)
		twice(t, b, 2, 3)
		for spoiled := range 4 {
			letters := b.Waiting()
			spoil(letters[spoiled].Data)
			for number, l := range letters {
				if number != spoiled {
					wantLetter(t, "beside one that was written over", l, letter(number, 1, 2, data))
				}
			}
		}
	}
}

// P20.6: the data of a message and of its doubles is answered apart, be it delivered, waiting, or doubled once more.
func TestDoublesAnsweredApart(t *testing.T) {
	for _, data := range severalData() {
		b := fresh(t)
		send(t, b, 1, 2, data, 0)
		twice(t, b, 0, 1)
		first, _ := b.Deliver(0)
		spoil(first.Data)
		twice(t, b, 1, 2)
		second, _ := b.Deliver(1)
		third, _ := b.Deliver(2)
		spoil(second.Data)
		wantLetter(t, "the last one", third, letter(2, 1, 2, data))
	}
}

// P20.6, P0.4: lists that are answered are the caller's own: who writes over them, and goes on with them, changes no bag and no other answer.
func TestAnswersAreNew(t *testing.T) {
	b, m := fresh(t), &telling{}
	for i := range 20 {
		ask(t, b, m, call{kind: kindSend, from: i, to: i % 2, data: text(i*3, i)})
		ask(t, b, m, call{kind: kindTwice, number: i})
		letters, other := b.Waiting(), b.Waiting()
		spoilLetters(letters)
		letters = append(letters[:0], letter(7, 7, 0, []byte("7")), letter(8, 8, 0, []byte("8")))
		wantLetters(t, "the other answer", other, m.waiting()...)
		for to := range 2 {
			numbers, others := b.For(to), b.For(to)
			spoilNumbers(numbers)
			numbers = append(numbers[:0], 7, 8)
			wantNums(t, "the other answer", others, m.goingTo(to)...)
			wantNums(t, "what goes on", numbers, 7, 8)
		}
		wantNum(t, "what goes on", len(letters), 2)
		wantAsTold(t, "written over", b, m)
	}
	for number := range 40 {
		ask(t, b, m, call{kind: kindDeliver, number: number})
	}
}

// P20.6: a letter's data that is gone on with does not run into another's.
func TestDataGoneOnWith(t *testing.T) {
	b := fresh(t)
	for number := range 10 {
		send(t, b, 1, 2, text(number, number), number)
	}
	letters := b.Waiting()
	for _, l := range letters {
		l.Data = append(l.Data, "more than there was before, by some bytes"...)
	}
	for number := range 10 {
		wantLetter(t, "Waiting", letters[number], letter(number, 1, 2, text(number, number)))
		deliver(t, b, letter(number, 1, 2, text(number, number)))
	}
}

// P20.6: answers stay what they were, whatever becomes of the bag.
func TestAnswersStay(t *testing.T) {
	b, m := fresh(t), &telling{}
	for i := range 12 {
		ask(t, b, m, call{kind: kindSend, from: i, to: i % 2, data: text(i*5, i)})
	}
	letters, numbers, counts := b.Waiting(), b.For(1), b.Counts()
	wantedLetters, wantedNumbers, wantedCounts := m.waiting(), m.goingTo(1), m.counts()
	one, _ := b.Deliver(3)
	m.end(3, delivered)
	for _, c := range []call{{kind: kindDrop, number: 1}, {kind: kindTwice, number: 5}, {kind: kindSend, to: 1, data: text(60, 9)}, {kind: kindDeliver, number: 0}} {
		b.Waiting()
		b.For(1)
		ask(t, b, m, c)
	}
	wantLetters(t, "Waiting", letters, wantedLetters...)
	wantNums(t, "For", numbers, wantedNumbers...)
	wantLetter(t, "Deliver", one, wantedLetters[3])
	if counts != wantedCounts {
		t.Fatalf("Counts: %+v, want %+v", counts, wantedCounts)
	}
}

// P20.6: the data of a letter that was told is not that of the letter that is delivered.
func TestToldAndDeliveredApart(t *testing.T) {
	b := fresh(t)
	send(t, b, 1, 2, text(50, 1), 0)
	send(t, b, 1, 2, text(50, 2), 1)
	told := b.Waiting()
	first, _ := b.Deliver(0)
	spoil(told[0].Data)
	wantLetter(t, "Deliver", first, letter(0, 1, 2, text(50, 1)))
	second, _ := b.Deliver(1)
	spoil(second.Data)
	wantLetter(t, "Waiting", told[1], letter(1, 1, 2, text(50, 2)))
}

// heap is how much memory is in use.
func heap() uint64 {
	runtime.GC()
	var m runtime.MemStats
	runtime.ReadMemStats(&m)
	return m.HeapAlloc
}

// wantLittleKept asks that a bag keeps next to nothing behind many messages of MaxMail bytes.
func wantLittleKept(t *testing.T, what string, b *bag.Bag, many func(data []byte)) {
	t.Helper()
	data := text(maxMail, 1)
	before := heap()
	many(data)
	if after := heap(); after > before+20*maxMail {
		t.Fatalf("%s: %d bytes are kept", what, after-before)
	}
	runtime.KeepAlive(b)
	runtime.KeepAlive(data)
}

// P20.2, P0.4: nothing is kept of messages that are gone, nor of those that were lost.
func TestNothingKept(t *testing.T) {
	b, c := fresh(t), full(t, 0)
	wantLittleKept(t, "gone", b, func(data []byte) {
		for i := range 100 {
			number, _ := b.Send(1, 2, data)
			double, _ := b.Twice(number)
			if i%2 == 0 {
				number, double = double, number
			}
			b.Drop(number)
			b.Deliver(double)
		}
	})
	wantNum(t, "Len", b.Len(), 0)
	wantLittleKept(t, "lost", c, func(data []byte) {
		for range 100 {
			wantNoSend(t, c, 1, 2, data, errMany)
		}
	})
}

// P20.6: what was asked of one bag changes no answer of another, of the same bytes.
func TestBagsAnsweredApart(t *testing.T) {
	a, b := fresh(t), fresh(t)
	data := text(100, 1)
	for number := range 3 {
		send(t, a, 1, 2, data, number)
		send(t, b, 1, 2, data, number)
	}
	spoilLetters(a.Waiting())
	spoilNumbers(a.For(2))
	first, _ := a.Deliver(0)
	spoil(first.Data)
	want := text(100, 1)
	wantLetters(t, "the other", b.Waiting(), letter(0, 1, 2, want), letter(1, 1, 2, want), letter(2, 1, 2, want))
	wantNums(t, "the other", b.For(2), 0, 1, 2)
	wantLetters(t, "the first", a.Waiting(), letter(1, 1, 2, want), letter(2, 1, 2, want))
}
