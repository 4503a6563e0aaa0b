package bag_test

import (
	"math"
	"testing"

	"haulage/api"
	"haulage/bag"
)

// P20.1 to P20.4, P0.1, P0.2: each call on a nil bag; ErrNil is told ahead of all else.
func TestNil(t *testing.T) {
	var b *bag.Bag
	names := append(wrongNames(), rightNames()...)
	for _, n := range []int{0, 1, maxMail, maxMail + 1} {
		data := text(n, 1)
		for _, name := range names {
			wantNoSend(t, b, name, 0, data, errNil)
			wantNoSend(t, b, 0, name, data, errNil)
			wantNoSend(t, b, name, name, data, errNil)
		}
	}
	for _, number := range names {
		wantNoDeliver(t, b, number, errNil)
		wantNoDrop(t, b, number, errNil)
		wantNoTwice(t, b, number, errNil)
		wantNums(t, "For", b.For(number))
	}
	wantLetters(t, "Waiting", b.Waiting())
	wantNum(t, "Len", b.Len(), 0)
	wantCounts(t, "a nil bag", b, 0, 0, 0, 0, 0)
}

// P0.1: a Bag that New did not make ends each call without a panic, and is one with nothing under way.
func TestBagOfNothing(t *testing.T) {
	b, m := &bag.Bag{}, &telling{}
	wantAsTold(t, "a bag of nothing", b, m)
	for _, number := range []int{math.MinInt, -1, 0, 1, math.MaxInt} {
		wantGone(t, b, number)
	}
	wantAsTold(t, "a bag of nothing", b, m)
	for _, c := range []call{{kind: kindSend, to: 1, data: []byte("a")}, {kind: kindTwice}, {kind: kindDeliver}, {kind: kindDrop, number: 1}} {
		ask(t, b, m, c)
		wantAsTold(t, c.String(), b, m)
	}
}

// P20.1: a new bag has nothing under way, and has counted nothing.
func TestNew(t *testing.T) {
	b := fresh(t)
	wantAsTold(t, "New", b, &telling{})
	wantNum(t, "Len", b.Len(), 0)
	wantLetters(t, "Waiting", b.Waiting())
	wantNums(t, "For(0)", b.For(0))
	if b.Counts() != (api.Traffic{}) {
		t.Fatalf("Counts: %+v", b.Counts())
	}
	send(t, b, 0, 0, nil, 0)
}
