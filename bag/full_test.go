package bag_test

import (
	"testing"

	"haulage/bag"
)

// full is a bag with as many messages under way as may be, of which so many at the end are doubles of the first.
func full(t *testing.T, doubles int) *bag.Bag {
	t.Helper()
	b := fresh(t)
	for i := range maxBag {
		number, err := 0, 0
		if i < maxBag-doubles {
			n, e := b.Send(i, i%5, text(i%3, i))
			number, err = n, int(e)
		} else {
			n, e := b.Twice(0)
			number, err = n, int(e)
		}
		if number != i || err != 0 {
			t.Fatalf("message %d: number %d, error %d", i, number, err)
		}
	}
	wantNum(t, "full: Len", b.Len(), maxBag)
	wantCounts(t, "full", b, maxBag-doubles, doubles, 0, 0, 0)
	return b
}

// P20.1, P20.3: MaxBag messages are under way; one more is lost, by Send and by Twice, whatever those before it came by.
func TestFull(t *testing.T) {
	for _, doubles := range []int{0, 1, 1000, maxBag - 1} {
		b := full(t, doubles)
		lost := 0
		for range 3 {
			wantNoSend(t, b, 0, 0, []byte("lost"), errMany)
			lost++
			wantCounts(t, "Send", b, maxBag-doubles, doubles, 0, 0, lost)
			wantNoTwice(t, b, 0, errMany)
			wantNoTwice(t, b, maxBag-1, errMany)
			lost += 2
			wantCounts(t, "Twice", b, maxBag-doubles, doubles, 0, 0, lost)
		}
		wantNum(t, "Len", b.Len(), maxBag)
		wantGone(t, b, maxBag)
		wantGone(t, b, maxBag+1)
		wantCounts(t, "numbers that never came", b, maxBag-doubles, doubles, 0, 0, lost)
	}
}

// P20.1, P20.3, P0.2: in a full bag the other errors are told first, and then nothing is lost.
func TestErrorsInAFullBag(t *testing.T) {
	b := full(t, 10)
	long := text(maxMail+1, 1)
	wantNoSend(t, b, -1, 0, nil, errArg)
	wantNoSend(t, b, 0, -1, nil, errArg)
	wantNoSend(t, b, -1, 0, long, errArg)
	wantNoSend(t, b, 0, 0, long, errLong)
	wantNoTwice(t, b, -1, errNone)
	wantNoTwice(t, b, maxBag, errNone)
	wantCounts(t, "refused", b, maxBag-10, 10, 0, 0, 0)
	wantNoSend(t, b, 0, 0, long[1:], errMany)
	wantCounts(t, "lost", b, maxBag-10, 10, 0, 0, 1)
}

// P20.1 to P20.3: behind a Deliver and a Drop there is room again, for one message each; its number is the next one, whatever was lost.
func TestRoomAgain(t *testing.T) {
	b := full(t, 0)
	wantNoSend(t, b, 1, 1, nil, errMany)
	deliver(t, b, letter(7, 7, 2, text(1, 7)))
	send(t, b, 1, 1, []byte("x"), maxBag)
	wantNoTwice(t, b, 0, errMany)
	drop(t, b, maxBag)
	twice(t, b, 8, maxBag+1)
	wantNoSend(t, b, 1, 1, nil, errMany)
	wantCounts(t, "a Deliver and a Drop", b, maxBag+1, 1, 1, 1, 3)

	deliver(t, b, letter(8, 8, 3, text(2, 8)))
	twice(t, b, maxBag+1, maxBag+2)
	drop(t, b, 9)
	send(t, b, 2, 2, []byte("y"), maxBag+3)
	wantNoSend(t, b, 1, 1, nil, errMany)
	wantNoTwice(t, b, maxBag+3, errMany)
	wantCounts(t, "another two", b, maxBag+2, 2, 2, 2, 5)
	wantGone(t, b, 7)
	wantGone(t, b, maxBag)
	deliver(t, b, letter(maxBag+2, 8, 3, text(2, 8)))
	deliver(t, b, letter(maxBag+3, 2, 2, []byte("y")))
}

// P20.1, P0.3: what is lost changes nothing else: all that is under way stays, as it was.
func TestLostChangesNothing(t *testing.T) {
	b := full(t, 3)
	waiting, numbers := b.Waiting(), b.For(4)
	wantNoSend(t, b, 0, 4, []byte("lost"), errMany)
	wantNoTwice(t, b, 4, errMany)
	wantLetters(t, "Waiting", b.Waiting(), waiting...)
	wantNums(t, "For(4)", b.For(4), numbers...)
	for i, l := range waiting[:maxBag-3] {
		wantLetter(t, "Waiting", l, letter(i, i, i%5, text(i%3, i)))
	}
	for i, l := range waiting[maxBag-3:] {
		wantLetter(t, "Waiting", l, letter(maxBag-3+i, 0, 0, nil))
	}
}

// P20.2: a full bag is emptied, and filled again: the numbers go on.
func TestEmptiedAndFilled(t *testing.T) {
	b := full(t, 0)
	for number := range maxBag {
		if number%2 == 0 {
			deliver(t, b, letter(number, number, number%5, text(number%3, number)))
		} else {
			drop(t, b, number)
		}
	}
	wantNum(t, "Len", b.Len(), 0)
	wantLetters(t, "Waiting", b.Waiting())
	wantNums(t, "For(0)", b.For(0))
	wantCounts(t, "emptied", b, maxBag, 0, maxBag/2, maxBag/2, 0)
	for i := range maxBag {
		send(t, b, 1, 2, nil, maxBag+i)
	}
	wantNoSend(t, b, 1, 2, nil, errMany)
	wantCounts(t, "filled again", b, 2*maxBag, 0, maxBag/2, maxBag/2, 1)
}
