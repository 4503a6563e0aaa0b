package bag_test

import (
	"math"
	"math/rand"
	"slices"
	"testing"

	"haulage/api"
	"haulage/bag"
)

// several are bags of so many messages each, with the To of number n being n % 3.
func several(t *testing.T, count int) *bag.Bag {
	t.Helper()
	b := fresh(t)
	for number := range count {
		send(t, b, count-number, number%3, text(number%9, number), number)
	}
	return b
}

// severalLetter is the message of that number in a bag of several.
func severalLetter(count, number int) api.Letter {
	return letter(number, count-number, number%3, text(number%9, number))
}

// P20.4: all that is under way, by rising numbers, whole; each time it is asked.
func TestWaitingRises(t *testing.T) {
	for _, count := range []int{1, 2, 3, 10, 100, 1000} {
		b := several(t, count)
		var wanted []api.Letter
		for number := range count {
			wanted = append(wanted, severalLetter(count, number))
		}
		for range 3 {
			wantLetters(t, "Waiting", b.Waiting(), wanted...)
		}
		wantNum(t, "Len", b.Len(), count)
	}
}

// P20.4: the numbers of those to one, rising; each time it is asked.
func TestForRises(t *testing.T) {
	b := several(t, 1000)
	for to := range 3 {
		var wanted []int
		for number := to; number < 1000; number += 3 {
			wanted = append(wanted, number)
		}
		for range 3 {
			wantNums(t, "For", b.For(to), wanted...)
		}
	}
}

// P20.4: whatever order the others went in, those that are left stand by rising numbers.
func TestLeftStandRising(t *testing.T) {
	const count = 300
	r := rand.New(rand.NewSource(23))
	up, shuffled := numbersFrom(0, count), r.Perm(count)
	down := slices.Clone(up)
	slices.Reverse(down)
	for _, order := range [][]int{up, down, shuffled} {
		b, left := several(t, count), slices.Clone(up)
		for i, number := range order {
			drop(t, b, number)
			left = slices.DeleteFunc(left, func(n int) bool { return n == number })
			if i%20 != 0 {
				continue
			}
			var letters []api.Letter
			var second []int
			for _, n := range left {
				letters = append(letters, severalLetter(count, n))
				if n%3 == 2 {
					second = append(second, n)
				}
			}
			wantLetters(t, "Waiting", b.Waiting(), letters...)
			wantNums(t, "For(2)", b.For(2), second...)
		}
	}
}

// P20.4: doubles stand by their own numbers, not beside the first.
func TestDoublesStandByTheirNumbers(t *testing.T) {
	b := several(t, 30)
	for number := range 30 {
		twice(t, b, 29-number, 30+number)
	}
	var wanted []api.Letter
	for number := range 30 {
		wanted = append(wanted, severalLetter(30, number))
	}
	for number := range 30 {
		l := severalLetter(30, 29-number)
		l.Number = 30 + number
		wanted = append(wanted, l)
	}
	wantLetters(t, "Waiting", b.Waiting(), wanted...)
}

// P20.4: For asks for the To alone, not for the From and not for the number; of a To that nothing has there is nothing.
func TestForAsksForTheTo(t *testing.T) {
	b := fresh(t)
	send(t, b, 5, 6, nil, 0)
	send(t, b, 6, 5, nil, 1)
	send(t, b, 5, 0, nil, 2)
	send(t, b, 1, math.MaxInt, nil, 3)
	wantNums(t, "For(5)", b.For(5), 1)
	wantNums(t, "For(6)", b.For(6), 0)
	wantNums(t, "For(0)", b.For(0), 2)
	wantNums(t, "For of the greatest", b.For(math.MaxInt), 3)
	for _, to := range append(wrongNames(), 1, 2, 3, 4, 7, 100, math.MaxInt-1) {
		wantNums(t, "For of a To that nothing has", b.For(to))
	}
	drop(t, b, 1)
	wantNums(t, "For of a To that nothing has any more", b.For(5))
}

// P20.4: what is told changes nothing: asked again it is the same, and the next number is the same.
func TestTellingChangesNothing(t *testing.T) {
	b, m := fresh(t), &telling{}
	for i := range 10 {
		ask(t, b, m, call{kind: kindSend, from: i, to: i % 3, data: text(i, i)})
	}
	ask(t, b, m, call{kind: kindTwice, number: 4})
	ask(t, b, m, call{kind: kindDeliver, number: 5})
	ask(t, b, m, call{kind: kindDrop, number: 6})
	for range 5 {
		wantAsTold(t, "told again", b, m)
	}
	send(t, b, 0, 0, nil, 11)
}

// P20.1 to P20.4: the five counts behind each call, also behind those that answer an error.
func TestCountsBehindEachCall(t *testing.T) {
	b := fresh(t)
	wantCounts(t, "New", b, 0, 0, 0, 0, 0)
	send(t, b, 0, 1, nil, 0)
	wantCounts(t, "Send", b, 1, 0, 0, 0, 0)
	wantNoSend(t, b, -1, 1, nil, errArg)
	wantCounts(t, "Send of a wrong name", b, 1, 0, 0, 0, 0)
	wantNoSend(t, b, 0, 1, text(maxMail+1, 1), errLong)
	wantCounts(t, "Send of too much", b, 1, 0, 0, 0, 0)
	twice(t, b, 0, 1)
	wantCounts(t, "Twice", b, 1, 1, 0, 0, 0)
	wantNoTwice(t, b, 2, errNone)
	wantCounts(t, "Twice of none", b, 1, 1, 0, 0, 0)
	deliver(t, b, letter(0, 0, 1, nil))
	wantCounts(t, "Deliver", b, 1, 1, 1, 0, 0)
	wantNoDeliver(t, b, 0, errNone)
	wantCounts(t, "Deliver of none", b, 1, 1, 1, 0, 0)
	drop(t, b, 1)
	wantCounts(t, "Drop", b, 1, 1, 1, 1, 0)
	wantNoDrop(t, b, 1, errNone)
	wantCounts(t, "Drop of none", b, 1, 1, 1, 1, 0)
}
