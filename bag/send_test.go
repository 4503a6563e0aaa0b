package bag_test

import (
	"math"
	"testing"
)

// P20.1: From and To may be any numbers from 0 on, and the letter has them as they were.
func TestNames(t *testing.T) {
	b := fresh(t)
	number := 0
	for _, from := range rightNames() {
		for _, to := range rightNames() {
			send(t, b, from, to, []byte("x"), number)
			deliver(t, b, letter(number, from, to, []byte("x")))
			number++
		}
	}
	wantCounts(t, "all names", b, number, 0, number, 0, 0)
}

// P20.1, P0.3: a From or To below 0 is refused, whichever of them it is, and nothing has changed.
func TestWrongNames(t *testing.T) {
	b, m := fresh(t), &telling{}
	ask(t, b, m, call{kind: kindSend, from: 1, to: 2, data: []byte("x")})
	for _, wrong := range wrongNames() {
		for _, other := range append(rightNames(), wrong) {
			wantNoSend(t, b, wrong, other, []byte("x"), errArg)
			wantNoSend(t, b, other, wrong, []byte("x"), errArg)
			wantAsTold(t, "a wrong name", b, m)
		}
	}
	send(t, b, 0, 0, nil, 1)
}

// P20.1: data of no byte, of MaxMail and of one more.
func TestSizes(t *testing.T) {
	b := fresh(t)
	for number, n := range []int{0, 1, 2, 255, 256, 65536, maxMail - 1, maxMail} {
		send(t, b, 1, 2, text(n, number), number)
	}
	for _, n := range []int{maxMail + 1, maxMail + 2, 2 * maxMail} {
		wantNoSend(t, b, 1, 2, text(n, 1), errLong)
	}
	wantCounts(t, "all sizes", b, 8, 0, 0, 0, 0)
	for number, n := range []int{0, 1, 2, 255, 256, 65536, maxMail - 1, maxMail} {
		deliver(t, b, letter(number, 1, 2, text(n, number)))
	}
}

// P20.1: data that is nil and data of no byte are the same.
func TestNoData(t *testing.T) {
	b := fresh(t)
	send(t, b, 1, 2, nil, 0)
	send(t, b, 1, 2, []byte{}, 1)
	send(t, b, 1, 2, []byte("behind")[:0], 2)
	twice(t, b, 0, 3)
	for number := range 4 {
		deliver(t, b, letter(number, 1, 2, nil))
	}
}

// P20.1, P0.2: ErrArg is told ahead of ErrLong.
func TestErrorsOfSend(t *testing.T) {
	b := fresh(t)
	long := text(maxMail+1, 1)
	wantNoSend(t, b, -1, 0, long, errArg)
	wantNoSend(t, b, 0, -1, long, errArg)
	wantNoSend(t, b, math.MinInt, math.MinInt, long, errArg)
	wantNoSend(t, b, 0, 0, long, errLong)
	wantAsTold(t, "behind errors", b, &telling{})
}

// P20.1, P20.5: any bytes are answered as they were sent, zeros and bytes of no letter among them.
func TestAnyBytes(t *testing.T) {
	b := fresh(t)
	all := [][]byte{{0}, {0, 0}, {0xFF}, {0xC3}, {0xED, 0xA0, 0x80}, {0xEF, 0xBF, 0xBD}, []byte("a\x00b"), []byte("\r\n")}
	for x := range 256 {
		all = append(all, []byte{byte(x), byte(255 - x), byte(x)})
	}
	for number, data := range all {
		send(t, b, 3, 4, data, number)
	}
	for number, data := range all {
		wantLetter(t, "Waiting", b.Waiting()[0], letter(number, 3, 4, data))
		deliver(t, b, letter(number, 3, 4, data))
	}
}

// P20.1: the next number is one more whenever a message has got one, by Send or by Twice, and in no other case.
func TestNextNumber(t *testing.T) {
	b := fresh(t)
	send(t, b, 0, 0, nil, 0)
	wantNoSend(t, b, -1, 0, nil, errArg)
	wantNoSend(t, b, 0, 0, text(maxMail+1, 1), errLong)
	wantNoTwice(t, b, 1, errNone)
	send(t, b, 0, 0, nil, 1)
	twice(t, b, 1, 2)
	drop(t, b, 2)
	deliver(t, b, letter(1, 0, 0, nil))
	wantGone(t, b, 1)
	wantGone(t, b, 2)
	send(t, b, 0, 0, nil, 3)
	drop(t, b, 3)
	drop(t, b, 0)
	wantNum(t, "Len", b.Len(), 0)
	send(t, b, 0, 0, nil, 4)
	twice(t, b, 4, 5)
}
