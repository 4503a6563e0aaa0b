package haul_test

import (
	"fmt"
	"slices"
	"testing"

	"haulage/api"
	"haulage/haul"
)

// spoil writes one byte over a list, and over the room behind it.
func spoil(p []byte) {
	p = p[:cap(p)]
	for i := range p {
		p[i] = 0xEE
	}
}

// spoilSaid writes over messages, over the lists in them, and over the room behind all of these.
func spoilSaid(all []api.Mail) {
	for _, m := range all {
		for _, p := range [][]byte{m.Copy, m.Op.Key, m.Op.Value, m.Answer.Key, m.Answer.Value} {
			spoil(p)
		}
	}
	all = all[:cap(all)]
	for i := range all {
		all[i] = api.Mail{Kind: 77, From: 77, To: 77, Shard: 77, Epoch: 77, Root: 77, Copy: []byte{77}}
	}
}

// roomy is a list with room behind it, and all of that memory.
func roomy(p []byte) (list, all []byte) {
	all = append(slices.Clone(p), "behind"...)
	return all[:len(p)], all
}

// P21.6, P0.4: a message's Copy is neither changed nor kept, whether it is installed, refused or passed over; spoilt, it changes neither what is told nor what is opened again.
func TestCopiesHandedIn(t *testing.T) {
	for _, c := range []struct {
		was    api.Ledger
		copied []byte
		right  bool
		then   api.Ledger
	}{
		{absent(0), copyOf(9), true, installed(5, 2)},
		{absent(0), emptyCopy(), true, installed(5, 2)},
		{installed(4, 0), copyOf(9), true, installed(5, 2)},
		{released(4, 0), copyOfSize(t, 1300), true, installed(5, 2)},
		{released(4, 0), copyOfSize(t, 1400), true, released(4, 0)},
		{released(4, 0), copyOf(9), false, released(4, 0)},
		{released(4, 0), copyOf(9)[1:], false, released(4, 0)},
		{installed(5, 2), copyOf(9), false, installed(5, 2)},
		{owned(5, 1), copyOf(9), false, owned(5, 1)},
	} {
		p := pairOf(t, 1, 3, known{c.was, copyOf(2)})
		wanted := p.e.Export(0)
		if c.then != c.was {
			wanted = slices.Clone(c.copied)
		}
		m := plain(api.MailOffer, 2, 1, 0, 5)
		if c.right {
			m.Root = rootOf(t, c.copied)
		}
		list, all := roomy(c.copied)
		m.Copy = list
		_, err := p.h.Hear(m)
		wantErr(t, "Hear", err, api.OK)
		wantBytes(t, "the copy's memory", all, append(slices.Clone(c.copied), "behind"...))
		spoil(all)
		wantLedger(t, "Hear", p.e, 0, c.then)
		wantBytes(t, "the copy is spoilt", p.e.Export(0), wanted)
		again := opened(t, "the copy is spoilt", loaded(t, p.d.Image()), 1, p.s)
		wantText(t, "opened again", tale(again), tale(p.e))
		p.h.Hear(plain(api.MailCommit, 2, 1, 0, 5))
		wantBytes(t, "the copy is spoilt, and committed", p.e.Export(0), wanted)
	}
}

// P21.6: no list of a message is changed, whatever its kind, also by a Haul whose engine is dead, and by a nil one.
func TestListsHandedIn(t *testing.T) {
	dead := pairOf(t, 1, 3, knownOf(installed(5, 2))...)
	dead.fuse(0)
	dead.do(api.Record{Kind: api.RecOwn, Shard: 0})
	for _, h := range []*haul.Haul{nil, {}, dead.h, pairOf(t, 1, 3, knownOf(installed(5, 2))...).h} {
		for kind := -1; kind < 11; kind++ {
			for lists := range 1 << 5 {
				var rows, memories [5][]byte
				for i := range rows {
					if lists>>i&1 > 0 {
						rows[i], memories[i] = roomy([]byte(fmt.Sprint("list", i)))
					}
				}
				m := api.Mail{Kind: kind, From: 2, To: 1, Epoch: 6, Copy: rows[0], Op: api.Op{Key: rows[1], Value: rows[2]}, Answer: api.Answer{Key: rows[3], Value: rows[4]}}
				h.Hear(m)
				for i, all := range memories {
					if all != nil {
						wantBytes(t, "a list's memory", all, []byte(fmt.Sprint("list", i, "behind")))
					}
				}
			}
		}
	}
}

// P21.6, P0.4: what Move, Hear and Tick answer is new memory each time; spoilt, it changes neither the Haul, nor its engine, nor what is said again.
func TestAnswersAreNew(t *testing.T) {
	for _, puts := range []int{0, 1, 9, 40} {
		p := pairOf(t, 1, 3, known{owned(4, 1), copyOf(puts)})
		wanted := offerOf(t, 1, 2, 0, 5, copyOf(puts))
		said, err := p.h.Move(0, 2)
		wantSaid(t, "Move", said, err, wanted)
		spoilSaid(said)
		before := tale(p.e)
		for range 40 {
			said, err = p.h.Tick()
			if len(said) > 0 {
				wantSaid(t, "Tick", said, err, wanted)
			}
			spoilSaid(said)
			wantText(t, "what was said is spoilt", tale(p.e), before)
			wantBytes(t, "what was said is spoilt", p.e.Export(0), copyOf(puts))
		}
		for range 3 {
			said, err = p.h.Hear(plain(api.MailHave, 2, 1, 0, 5))
			wantSaid(t, "Hear", said, err, plain(api.MailCommit, 1, 2, 0, 5))
			spoilSaid(said)
		}
		wantLedger(t, "behind all", p.e, 0, committed(5, 2))
		again := opened(t, "behind all", loaded(t, p.d.Image()), 1, p.s)
		wantText(t, "opened again", tale(again), tale(p.e))
	}
}

// P21.6, P0.4: no two messages of one answer share a list, nor do two answers.
func TestAnswersAreApart(t *testing.T) {
	row := []known{{offered(5, 2), copyOf(9)}, {offered(5, 2), copyOf(9)}, {offered(5, 2), copyOf(3)}, {offered(5, 2), nil}}
	for i := range row {
		p := pairOf(t, 1, 3, row...)
		first, err := p.h.Tick()
		wantErr(t, "Tick", err, api.OK)
		wantNum(t, "Tick", len(first), len(row))
		p.h.Tick()
		second, err := p.h.Tick()
		wantErr(t, "Tick", err, api.OK)
		wantText(t, "the third tick", told(second), told(first))
		kept := told(second)
		spoil(first[i].Copy)
		for j := range row {
			if j != i {
				wantBytes(t, "another copy of that answer", first[j].Copy, p.e.Export(j))
			}
		}
		spoilSaid(first)
		wantText(t, "another answer", told(second), kept)
	}
}

// P21.6: one message is heard twice, in unlike memory: each time it is as if nobody had heard it before; what it brought is spoilt between.
func TestSaidTwice(t *testing.T) {
	zero := pairOf(t, 0, 2, known{owned(3, 0), copyOf(6)})
	one := pairOf(t, 1, 2, knownOf(absent(0))...)
	offer, _ := zero.h.Move(0, 1)
	double := offer[0]
	double.Copy = slices.Clone(double.Copy)
	have, err := one.h.Hear(offer[0])
	wantSaid(t, "an offer", have, err, plain(api.MailHave, 1, 0, 0, 4))
	spoilSaid(offer)
	spoilSaid(have)
	have, err = one.h.Hear(double)
	wantSaid(t, "its double", have, err, plain(api.MailHave, 1, 0, 0, 4))
	wantBytes(t, "the copy", one.e.Export(0), copyOf(6))
	wantBytes(t, "the copy at home", zero.e.Export(0), copyOf(6))
}
