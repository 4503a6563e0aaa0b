package bag_test

import (
	"fmt"
	"math"
	"math/rand"
	"slices"
	"testing"

	"haulage/api"
	"haulage/bag"
)

// What becomes of a message.
const (
	underWay  = "under way"
	delivered = "delivered"
	dropped   = "dropped"
)

// entry is a message of the telling, and what has become of it.
type entry struct {
	from, to int
	data     string
	doubled  bool
	fate     string
}

// telling is a second telling of the chapter: all messages that ever were under way stand in a row, so that a message's number is its place there, and all that is told is counted anew each time.
type telling struct {
	all  []entry
	lost int
}

// has says whether the message of that number is under way.
func (m *telling) has(number int) bool {
	return 0 <= number && number < len(m.all) && m.all[number].fate == underWay
}

// many says how many messages have that fate.
func (m *telling) many(fate string) int {
	n := 0
	for i := range m.all {
		if m.all[i].fate == fate {
			n++
		}
	}
	return n
}

// add is the answer to a message that should be under way.
func (m *telling) add(e entry) (int, int) {
	if m.many(underWay) == maxBag {
		m.lost++
		return 0, errMany
	}
	e.fate = underWay
	m.all = append(m.all, e)
	return len(m.all) - 1, 0
}

func (m *telling) send(from, to int, data []byte) (int, int) {
	if from < 0 || to < 0 {
		return 0, errArg
	}
	if len(data) > maxMail {
		return 0, errLong
	}
	return m.add(entry{from: from, to: to, data: string(data)})
}

func (m *telling) twice(number int) (int, int) {
	if !m.has(number) {
		return 0, errNone
	}
	e := m.all[number]
	e.doubled = true
	return m.add(e)
}

// end is the error of a call by which a message is under way no more.
func (m *telling) end(number int, fate string) int {
	if !m.has(number) {
		return errNone
	}
	m.all[number].fate = fate
	return 0
}

func (m *telling) letter(number int) api.Letter {
	e := m.all[number]
	return letter(number, e.from, e.to, []byte(e.data))
}

func (m *telling) waiting() []api.Letter {
	var all []api.Letter
	for number := range m.all {
		if m.has(number) {
			all = append(all, m.letter(number))
		}
	}
	return all
}

func (m *telling) goingTo(to int) []int {
	var all []int
	for number, e := range m.all {
		if e.fate == underWay && e.to == to {
			all = append(all, number)
		}
	}
	return all
}

func (m *telling) counts() api.Traffic {
	c := api.Traffic{Delivered: m.many(delivered), Dropped: m.many(dropped), Lost: m.lost}
	for i := range m.all {
		if m.all[i].doubled {
			c.Twice++
		} else {
			c.Sent++
		}
	}
	return c
}

// The kinds of a call by which a bag changes.
const (
	kindSend = iota
	kindDeliver
	kindDrop
	kindTwice
)

type call struct {
	kind     int
	from, to int
	data     []byte
	number   int
}

func (c call) String() string {
	if c.kind == kindSend {
		return fmt.Sprintf("Send(%d, %d, %s)", c.from, c.to, start(c.data))
	}
	return fmt.Sprintf("%s(%d)", []string{"", "Deliver", "Drop", "Twice"}[c.kind], c.number)
}

// ask has a call at both, and holds against each other what is answered.
func ask(t *testing.T, b *bag.Bag, m *telling, c call) {
	t.Helper()
	switch c.kind {
	case kindSend:
		number, err := b.Send(c.from, c.to, c.data)
		wanted, why := m.send(c.from, c.to, c.data)
		wantErr(t, c.String(), err, why)
		wantNum(t, c.String(), number, wanted)
	case kindTwice:
		number, err := b.Twice(c.number)
		wanted, why := m.twice(c.number)
		wantErr(t, c.String(), err, why)
		wantNum(t, c.String(), number, wanted)
	case kindDrop:
		wantErr(t, c.String(), b.Drop(c.number), m.end(c.number, dropped))
	case kindDeliver:
		got, err := b.Deliver(c.number)
		why := m.end(c.number, delivered)
		wantErr(t, c.String(), err, why)
		wanted := api.Letter{}
		if why == 0 {
			wanted = m.letter(c.number)
		}
		wantLetter(t, c.String(), got, wanted)
	}
}

// wantCounted holds what is counted against the telling.
func wantCounted(t *testing.T, what string, b *bag.Bag, m *telling) {
	t.Helper()
	wantNum(t, what+": Len", b.Len(), m.many(underWay))
	c := m.counts()
	wantCounts(t, what, b, c.Sent, c.Twice, c.Delivered, c.Dropped, c.Lost)
}

// wantAsTold holds all that a bag answers without being changed against the telling.
func wantAsTold(t *testing.T, what string, b *bag.Bag, m *telling) {
	t.Helper()
	wantCounted(t, what, b, m)
	wantLetters(t, what+": Waiting", b.Waiting(), m.waiting()...)
	tos := []int{math.MinInt, -1, 0, 1, 2, 3, 100, math.MaxInt}
	for _, e := range m.all {
		if !slices.Contains(tos, e.to) {
			tos = append(tos, e.to)
		}
	}
	for _, to := range tos {
		wantNums(t, fmt.Sprintf("%s: For(%d)", what, to), b.For(to), m.goingTo(to)...)
	}
}

// some is one of these.
func some[T any](r *rand.Rand, all ...T) T { return all[r.Intn(len(all))] }

// someNumber is one of those that have come, or at times one that has not.
func someNumber(r *rand.Rand, m *telling) int {
	if len(m.all) == 0 || r.Intn(12) == 0 {
		return some(r, math.MinInt, -2, -1, len(m.all), len(m.all)+1, maxBag, math.MaxInt)
	}
	return r.Intn(len(m.all))
}

// someName is one of few, or at times any other, a wrong one among these.
func someName(r *rand.Rand) int {
	if r.Intn(12) == 0 {
		return some(r, append(wrongNames(), rightNames()...)...)
	}
	return r.Intn(4)
}

// someData is short, or at times as long as may be, or longer.
func someData(r *rand.Rand) []byte {
	n := r.Intn(6)
	if r.Intn(400) == 0 {
		n = some(r, maxMail-1, maxMail, maxMail+1, maxMail+2)
	}
	p := make([]byte, n)
	r.Read(p)
	return p
}

// someCall is a call of any kind.
func someCall(r *rand.Rand, m *telling) call {
	switch r.Intn(8) {
	case 0, 1, 2:
		return call{kind: kindSend, from: someName(r), to: someName(r), data: someData(r)}
	case 3, 4:
		return call{kind: kindTwice, number: someNumber(r, m)}
	case 5:
		return call{kind: kindDrop, number: someNumber(r, m)}
	}
	return call{kind: kindDeliver, number: someNumber(r, m)}
}

// P20.1 to P20.5: rows of calls of all kinds come out as the chapter's words say, refused ones among them.
func TestTelling(t *testing.T) {
	r := rand.New(rand.NewSource(20))
	for range 200 {
		b, m := fresh(t), &telling{}
		for range 100 {
			c := someCall(r, m)
			ask(t, b, m, c)
			wantAsTold(t, c.String(), b, m)
		}
	}
}

// fewCalls are those of which all rows are asked.
func fewCalls() []call {
	all := []call{{kind: kindSend, to: 1, data: []byte("a")}, {kind: kindSend, from: 1}}
	for number := range 3 {
		for kind := kindDeliver; kind <= kindTwice; kind++ {
			all = append(all, call{kind: kind, number: number})
		}
	}
	return all
}

// P20.1 to P20.5: all rows of few calls, up to a length.
func TestAllRows(t *testing.T) {
	calls := fewCalls()
	for length, rows := 0, 1; length <= 5; length, rows = length+1, rows*len(calls) {
		for row := range rows {
			b, m := fresh(t), &telling{}
			for left := range length {
				ask(t, b, m, calls[row%len(calls)])
				row /= len(calls)
				if left == length-1 {
					wantAsTold(t, "a row of few calls", b, m)
				}
			}
		}
	}
}

// P20.1 to P20.5: rows of calls around MaxBag messages under way, where most of what comes is lost.
func TestTellingNearFull(t *testing.T) {
	r := rand.New(rand.NewSource(21))
	for range 4 {
		b, m := fresh(t), &telling{}
		for i := range maxBag - 20 {
			c := call{kind: kindSend, from: i, to: i % 3, data: text(i%5, i)}
			number, err := b.Send(c.from, c.to, c.data)
			if number != i || err != 0 {
				t.Fatalf("%v: %d, error %d", c, number, int(err))
			}
			m.all = append(m.all, entry{from: c.from, to: c.to, data: string(c.data), fate: underWay})
		}
		for i := range 300 {
			c := someCall(r, m)
			ask(t, b, m, c)
			wantCounted(t, c.String(), b, m)
			if i%50 == 49 {
				wantLetters(t, "near full: Waiting", b.Waiting(), m.waiting()...)
				wantNums(t, "near full: For(1)", b.For(1), m.goingTo(1)...)
			}
		}
		if m.lost == 0 {
			t.Fatal("nothing was lost")
		}
	}
}
