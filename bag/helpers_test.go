package bag_test

import (
	"bytes"
	"fmt"
	"math"
	"slices"
	"testing"

	"haulage/api"
	"haulage/bag"
)

// The chapter's bounds, and its errors.
const (
	maxMail = 524288
	maxBag  = 65536

	errNil  = 1
	errArg  = 2
	errLong = 3
	errNone = 200
	errMany = 201
)

// fresh is a bag with nothing under way.
func fresh(t *testing.T) *bag.Bag {
	t.Helper()
	b := bag.New()
	if b == nil {
		t.Fatal("New: no bag")
	}
	return b
}

// text is data of n bytes of all kinds, unlike that of another mark.
func text(n, mark int) []byte {
	p := make([]byte, n)
	for i := range p {
		p[i] = byte(i*7 + i>>8 + mark*101)
	}
	return p
}

// start is as much of some data as a failure needs to tell.
func start(p []byte) string {
	if len(p) > 40 {
		return fmt.Sprintf("%d bytes, %q..", len(p), p[:40])
	}
	return fmt.Sprintf("%q", p)
}

func short(l api.Letter) string {
	return fmt.Sprintf("number %d from %d to %d: %s", l.Number, l.From, l.To, start(l.Data))
}

func letter(number, from, to int, data []byte) api.Letter {
	return api.Letter{Number: number, From: from, To: to, Data: data}
}

// alike holds letters against each other; data that is nil is that of no byte.
func alike(x, y api.Letter) bool {
	return x.Number == y.Number && x.From == y.From && x.To == y.To && bytes.Equal(x.Data, y.Data)
}

func wantErr(t *testing.T, what string, got api.Errno, wanted int) {
	t.Helper()
	if int(got) != wanted {
		t.Fatalf("%s: error %d, want %d", what, int(got), wanted)
	}
}

func wantNum(t *testing.T, what string, got, wanted int) {
	t.Helper()
	if got != wanted {
		t.Fatalf("%s: %d, want %d", what, got, wanted)
	}
}

func wantNums(t *testing.T, what string, got []int, wanted ...int) {
	t.Helper()
	if !slices.Equal(got, wanted) {
		t.Fatalf("%s: %v, want %v", what, got, wanted)
	}
}

func wantLetter(t *testing.T, what string, got, wanted api.Letter) {
	t.Helper()
	if !alike(got, wanted) {
		t.Fatalf("%s: %s; want %s", what, short(got), short(wanted))
	}
}

func wantLetters(t *testing.T, what string, got []api.Letter, wanted ...api.Letter) {
	t.Helper()
	if len(got) != len(wanted) {
		t.Fatalf("%s: %d letters, want %d", what, len(got), len(wanted))
	}
	for i := range got {
		wantLetter(t, fmt.Sprintf("%s: letter %d", what, i), got[i], wanted[i])
	}
}

// wantCounts asks for the five counts, in the order of the chapter.
func wantCounts(t *testing.T, what string, b *bag.Bag, sent, twice, delivered, dropped, lost int) {
	t.Helper()
	wanted := api.Traffic{Sent: sent, Twice: twice, Delivered: delivered, Dropped: dropped, Lost: lost}
	if got := b.Counts(); got != wanted {
		t.Fatalf("%s: Counts: %+v, want %+v", what, got, wanted)
	}
}

// send is a Send that goes well, and is answered by this number.
func send(t *testing.T, b *bag.Bag, from, to int, data []byte, wanted int) {
	t.Helper()
	what := fmt.Sprintf("Send(%d, %d, %s)", from, to, start(data))
	number, err := b.Send(from, to, data)
	wantErr(t, what, err, 0)
	wantNum(t, what, number, wanted)
}

// wantNoSend asks for an error, and for no number beside it.
func wantNoSend(t *testing.T, b *bag.Bag, from, to int, data []byte, wanted int) {
	t.Helper()
	what := fmt.Sprintf("Send(%d, %d, %s)", from, to, start(data))
	number, err := b.Send(from, to, data)
	wantErr(t, what, err, wanted)
	wantNum(t, what, number, 0)
}

// deliver is a Deliver that goes well, and answers this letter.
func deliver(t *testing.T, b *bag.Bag, wanted api.Letter) {
	t.Helper()
	what := fmt.Sprintf("Deliver(%d)", wanted.Number)
	got, err := b.Deliver(wanted.Number)
	wantErr(t, what, err, 0)
	wantLetter(t, what, got, wanted)
}

// wantNoDeliver asks for an error, and for no letter beside it.
func wantNoDeliver(t *testing.T, b *bag.Bag, number, wanted int) {
	t.Helper()
	what := fmt.Sprintf("Deliver(%d)", number)
	got, err := b.Deliver(number)
	wantErr(t, what, err, wanted)
	wantLetter(t, what, got, api.Letter{})
}

func drop(t *testing.T, b *bag.Bag, number int) {
	t.Helper()
	wantErr(t, fmt.Sprintf("Drop(%d)", number), b.Drop(number), 0)
}

func wantNoDrop(t *testing.T, b *bag.Bag, number, wanted int) {
	t.Helper()
	wantErr(t, fmt.Sprintf("Drop(%d)", number), b.Drop(number), wanted)
}

// twice is a Twice that goes well, and is answered by this number.
func twice(t *testing.T, b *bag.Bag, number, wanted int) {
	t.Helper()
	what := fmt.Sprintf("Twice(%d)", number)
	got, err := b.Twice(number)
	wantErr(t, what, err, 0)
	wantNum(t, what, got, wanted)
}

// wantNoTwice asks for an error, and for no number beside it.
func wantNoTwice(t *testing.T, b *bag.Bag, number, wanted int) {
	t.Helper()
	what := fmt.Sprintf("Twice(%d)", number)
	got, err := b.Twice(number)
	wantErr(t, what, err, wanted)
	wantNum(t, what, got, 0)
}

// wantGone asks for ErrBagNone of each call that names a message.
func wantGone(t *testing.T, b *bag.Bag, number int) {
	t.Helper()
	wantNoDeliver(t, b, number, errNone)
	wantNoDrop(t, b, number, errNone)
	wantNoTwice(t, b, number, errNone)
}

// numbersFrom are count numbers, rising by one.
func numbersFrom(first, count int) []int {
	all := make([]int, count)
	for i := range all {
		all[i] = first + i
	}
	return all
}

// wrongNames are numbers that no From and no To may be.
func wrongNames() []int { return []int{math.MinInt, math.MinInt + 1, -1 << 32, -100, -2, -1} }

// rightNames are numbers that each From and each To may be.
func rightNames() []int { return []int{0, 1, 7, 8, 100, 115, 116, 1 << 31, 1 << 32, math.MaxInt} }
