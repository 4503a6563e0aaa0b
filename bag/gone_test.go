package bag_test

import (
	"fmt"
	"math"
	"math/rand"
	"testing"

	"haulage/api"
)

// P20.2, P20.3, P0.3: a number that never came, one below 0 too, is that of no message, and nothing changes.
func TestNumbersThatNeverCame(t *testing.T) {
	for _, sent := range []int{0, 1, 5} {
		b, m := fresh(t), &telling{}
		for range sent {
			ask(t, b, m, call{kind: kindSend, from: 1, to: 2, data: []byte("x")})
		}
		for _, number := range []int{math.MinInt, -1 << 32, -65536, -2, -1, sent, sent + 1, maxBag, 1 << 32, math.MaxInt} {
			wantGone(t, b, number)
			wantAsTold(t, "a number that never came", b, m)
		}
		send(t, b, 1, 2, nil, sent)
	}
}

// P20.2: a message that is delivered is answered once, and is under way no more; Delivered is one more.
func TestDeliver(t *testing.T) {
	b := fresh(t)
	for number := range 5 {
		send(t, b, number, 10+number, text(number, number), number)
	}
	for done, number := range []int{2, 0, 4, 1, 3} {
		deliver(t, b, letter(number, number, 10+number, text(number, number)))
		wantCounts(t, "Deliver", b, 5, 0, done+1, 0, 0)
		wantNum(t, "Len", b.Len(), 4-done)
		wantGone(t, b, number)
		wantCounts(t, "Deliver again", b, 5, 0, done+1, 0, 0)
		wantNums(t, "For", b.For(10+number))
	}
	wantLetters(t, "Waiting", b.Waiting())
}

// P20.2: a message that is dropped is under way no more, and is never answered; Dropped is one more.
func TestDrop(t *testing.T) {
	b := fresh(t)
	for number := range 5 {
		send(t, b, number, 10+number, text(number, number), number)
	}
	for done, number := range []int{4, 3, 0, 2, 1} {
		drop(t, b, number)
		wantCounts(t, "Drop", b, 5, 0, 0, done+1, 0)
		wantNum(t, "Len", b.Len(), 4-done)
		wantGone(t, b, number)
		wantCounts(t, "Drop again", b, 5, 0, 0, done+1, 0)
		wantNums(t, "For", b.For(10+number))
	}
	wantLetters(t, "Waiting", b.Waiting())
}

// P20.2: what is delivered or dropped is the message of that number alone, in whatever order they go.
func TestOthersStay(t *testing.T) {
	r := rand.New(rand.NewSource(22))
	for range 20 {
		b, m := fresh(t), &telling{}
		for i := range 60 {
			ask(t, b, m, call{kind: kindSend, from: i, to: i % 4, data: text(i, i)})
		}
		for i, number := range r.Perm(60) {
			ask(t, b, m, call{kind: []int{kindDeliver, kindDrop}[(number+i)%2], number: number})
			wantAsTold(t, fmt.Sprintf("number %d is gone", number), b, m)
		}
		wantNum(t, "Len", b.Len(), 0)
	}
}

// P20.3: a further message with the same From, To and Data; Twice is one more, and Sent is not.
func TestTwice(t *testing.T) {
	b := fresh(t)
	send(t, b, 3, 4, []byte("xyz"), 0)
	send(t, b, 5, 6, nil, 1)
	twice(t, b, 0, 2)
	wantCounts(t, "Twice", b, 2, 1, 0, 0, 0)
	twice(t, b, 0, 3)
	twice(t, b, 1, 4)
	wantCounts(t, "Twice", b, 2, 3, 0, 0, 0)
	x, y := []byte("xyz"), []byte(nil)
	wantLetters(t, "Waiting", b.Waiting(), letter(0, 3, 4, x), letter(1, 5, 6, y), letter(2, 3, 4, x), letter(3, 3, 4, x), letter(4, 5, 6, y))
	wantNums(t, "For(4)", b.For(4), 0, 2, 3)
	wantNums(t, "For(6)", b.For(6), 1, 4)
}

// P20.3: a message that was itself made by Twice is doubled like any other, the first one being gone or not.
func TestTwiceOfADouble(t *testing.T) {
	data := text(1000, 1)
	b := fresh(t)
	send(t, b, 3, 4, data, 0)
	for number := range 20 {
		twice(t, b, number, number+1)
		if number%3 == 0 {
			drop(t, b, number)
		}
	}
	wantCounts(t, "doubles of doubles", b, 1, 20, 0, 7, 0)
	var wanted []api.Letter
	for number := range 21 {
		if number%3 != 0 || number > 19 {
			wanted = append(wanted, letter(number, 3, 4, data))
		}
	}
	wantLetters(t, "Waiting", b.Waiting(), wanted...)
	for _, l := range wanted {
		deliver(t, b, l)
	}
	wantCounts(t, "all delivered", b, 1, 20, 14, 7, 0)
}

// P20.2, P20.3: a message and its double go one without the other.
func TestDoublesApart(t *testing.T) {
	for _, first := range []int{0, 1} {
		b := fresh(t)
		send(t, b, 3, 4, []byte("xyz"), 0)
		twice(t, b, 0, 1)
		deliver(t, b, letter(first, 3, 4, []byte("xyz")))
		wantGone(t, b, first)
		wantLetters(t, "Waiting", b.Waiting(), letter(1-first, 3, 4, []byte("xyz")))
		drop(t, b, 1-first)
		wantGone(t, b, 1-first)
		wantCounts(t, "both gone", b, 1, 1, 1, 1, 0)
	}
}

// P20.3: a message of MaxMail bytes is doubled as any other.
func TestTwiceOfTheLongest(t *testing.T) {
	b := fresh(t)
	send(t, b, 1, 2, text(maxMail, 3), 0)
	twice(t, b, 0, 1)
	twice(t, b, 1, 2)
	for number := range 3 {
		deliver(t, b, letter(number, 1, 2, text(maxMail, 3)))
	}
}
