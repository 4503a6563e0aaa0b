package bag_test

import (
	"fmt"
	"math/rand"
	"testing"
)

// P20.1: two bags have nothing to do with one another: each has its own numbers, counts and messages.
func TestTwoBags(t *testing.T) {
	a, b := fresh(t), fresh(t)
	send(t, a, 0, 1, []byte("a"), 0)
	send(t, a, 0, 1, []byte("aa"), 1)
	wantAsTold(t, "the other", b, &telling{})
	wantGone(t, b, 0)
	send(t, b, 2, 1, []byte("b"), 0)
	twice(t, b, 0, 1)
	drop(t, b, 0)
	wantCounts(t, "the first", a, 2, 0, 0, 0, 0)
	wantCounts(t, "the other", b, 1, 1, 0, 1, 0)
	wantNums(t, "the first: For(1)", a.For(1), 0, 1)
	wantNums(t, "the other: For(1)", b.For(1), 1)
	deliver(t, a, letter(0, 0, 1, []byte("a")))
	deliver(t, b, letter(1, 2, 1, []byte("b")))
	wantGone(t, b, 0)
	deliver(t, a, letter(1, 0, 1, []byte("aa")))
}

// P20.1: a full bag leaves another one its room, and a message that it loses is lost there alone.
func TestAFullBagAndAnother(t *testing.T) {
	a, b := full(t, 0), fresh(t)
	wantNoSend(t, a, 0, 0, nil, errMany)
	send(t, b, 0, 0, nil, 0)
	wantCounts(t, "the other", b, 1, 0, 0, 0, 0)
	wantCounts(t, "the full one", a, maxBag, 0, 0, 0, 1)
}

// P20.1 to P20.4: rows of calls that change about between bags come out as if each bag were alone.
func TestBagsByTurns(t *testing.T) {
	r := rand.New(rand.NewSource(24))
	for range 40 {
		a, b := fresh(t), fresh(t)
		m, n := &telling{}, &telling{}
		for range 80 {
			if r.Intn(2) == 0 {
				ask(t, a, m, someCall(r, m))
			} else {
				ask(t, b, n, someCall(r, n))
			}
			wantAsTold(t, "the first", a, m)
			wantAsTold(t, fmt.Sprintf("the other, beside %d", len(m.all)), b, n)
		}
	}
}
