package bag_test

import (
	"math/rand"
	"testing"

	"haulage/api"
	"haulage/bag"
)

// log is what was said to a bag and what it answered, by which P20.5 is asked without a telling of how a bag works.
type log struct {
	bag   *bag.Bag
	came  map[int]api.Letter
	gone  map[int]bool
	least int
}

// note takes up a number that was answered: it has not come before, and is above all that have.
func (l *log) note(t *testing.T, number int, m api.Letter) {
	t.Helper()
	if _, ok := l.came[number]; ok || number < l.least {
		t.Fatalf("number %d has come before, or one above it", number)
	}
	m.Number = number
	l.came[number], l.least = m, number+1
}

func (l *log) send(t *testing.T, from, to int, data []byte) {
	t.Helper()
	if number, err := l.bag.Send(from, to, data); err == api.OK {
		l.note(t, number, api.Letter{From: from, To: to, Data: data})
	}
}

func (l *log) twice(t *testing.T, number int) {
	t.Helper()
	if double, err := l.bag.Twice(number); err == api.OK {
		l.note(t, double, l.came[number])
	}
}

func (l *log) deliver(t *testing.T, number int) {
	t.Helper()
	m, err := l.bag.Deliver(number)
	if err != api.OK {
		return
	}
	if l.gone[number] {
		t.Fatalf("number %d was gone, and is delivered", number)
	}
	wantLetter(t, "Deliver", m, l.came[number])
	l.gone[number] = true
}

func (l *log) drop(t *testing.T, number int) {
	t.Helper()
	if l.bag.Drop(number) != api.OK {
		return
	}
	if l.gone[number] {
		t.Fatalf("number %d was gone, and is dropped", number)
	}
	l.gone[number] = true
}

// check asks what is to hold behind each call.
func (l *log) check(t *testing.T) {
	t.Helper()
	c := l.bag.Counts()
	wantNum(t, "Sent and Twice", c.Sent+c.Twice, c.Delivered+c.Dropped+l.bag.Len())
	wantNum(t, "all numbers", len(l.came), c.Sent+c.Twice)
	wantNum(t, "all that are gone", len(l.gone), c.Delivered+c.Dropped)
}

// checkWaiting asks for each message that is not gone, just as it was sent.
func (l *log) checkWaiting(t *testing.T) {
	t.Helper()
	waiting := l.bag.Waiting()
	wantNum(t, "Waiting", len(waiting), l.bag.Len())
	for i, m := range waiting {
		if l.gone[m.Number] || i > 0 && m.Number <= waiting[i-1].Number {
			t.Fatalf("number %d is under way, at place %d", m.Number, i)
		}
		wantLetter(t, "Waiting", m, l.came[m.Number])
	}
}

// P20.5: over rows of calls Sent and Twice together are Delivered, Dropped and Len together; no number comes twice; each message is answered as it was sent.
func TestNothingElse(t *testing.T) {
	r := rand.New(rand.NewSource(25))
	for range 200 {
		l := &log{bag: fresh(t), came: map[int]api.Letter{}, gone: map[int]bool{}}
		for range 150 {
			number := r.Intn(l.least+2) - 1
			switch r.Intn(6) {
			case 0, 1:
				l.send(t, someName(r), someName(r), someData(r))
			case 2, 3:
				l.twice(t, number)
			case 4:
				l.deliver(t, number)
			case 5:
				l.drop(t, number)
			}
			l.check(t)
		}
		l.checkWaiting(t)
		for number := range l.least {
			l.deliver(t, number)
			l.check(t)
		}
		wantNum(t, "Len behind all", l.bag.Len(), 0)
	}
}
