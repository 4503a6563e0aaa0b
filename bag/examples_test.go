package bag_test

import "testing"

// P20.1 to P20.4: the rows of "Examples", one behind the other on one bag.
func TestExamples(t *testing.T) {
	b := fresh(t)
	send(t, b, 0, 1, []byte("a"), 0)
	send(t, b, 1, 0, []byte("b"), 1)
	send(t, b, 0, 1, nil, 2)

	twice(t, b, 1, 3)
	waiting := b.Waiting()
	wantLetters(t, "Waiting", waiting, letter(0, 0, 1, []byte("a")), letter(1, 1, 0, []byte("b")), letter(2, 0, 1, nil), letter(3, 1, 0, []byte("b")))
	wantNums(t, "For(1)", b.For(1), 0, 2)

	deliver(t, b, letter(3, 1, 0, []byte("b")))
	wantNoDeliver(t, b, 3, errNone)
	drop(t, b, 0)
	wantNum(t, "Len", b.Len(), 2)

	wantNoTwice(t, b, 0, errNone)
	wantNoSend(t, b, -1, 0, []byte("c"), errArg)
	wantCounts(t, "all rows", b, 3, 1, 1, 1, 0)
}
