package server_test

import (
	"slices"
	"testing"

	"haulage/api"
)

// spoil writes one byte over a list, and over the room behind it.
func spoil(p []byte) {
	p = p[:cap(p)]
	for i := range p {
		p[i] = 0xEE
	}
}

// spoilLetters writes over letters, over their Data, and over the room behind all of these.
func spoilLetters(all []api.Letter) {
	for _, l := range all {
		spoil(l.Data)
	}
	all = all[:cap(all)]
	for i := range all {
		all[i] = api.Letter{Number: 77, From: 77, To: 77, Data: []byte{77}}
	}
}

// roomy is a list with room behind it, and all of that memory.
func roomy(p []byte) (list, all []byte) {
	all = append(slices.Clone(p), "behind"...)
	return all[:len(p)], all
}

// tale is all that a server tells, but for Deeds.
func (p *pair) tale() string {
	p.t.Helper()
	p.seen = counts{} // so that all bytes are compared
	p.wantAlike("the tale")
	return string(p.o.Bytes())
}

// P22.13, P0.4: what is heard is neither changed nor kept, whatever it asks for, and whether it is done, refused or passed over; spoilt, it changes neither what is told nor what is opened again.
func TestHeardMemory(t *testing.T) {
	for _, m := range []api.Mail{
		ask(1, 3, 1, 0, put("a", text(40, 1))), ask(1, 3, 1, 0, swap("a", text(40, 1), 0)), ask(1, 3, 1, 0, remove("k1")), ask(1, 3, 1, 0, get("k1")), ask(1, 3, 1, 0, seek("")),
		ask(1, 0, 1, 0, put("a", "1")), ask(0, 3, 1, 0, put("a", "1")), ask(1, 3, 1, 5, put("a", "1")),
		plain(4, 2, 1, 0, 5), plain(5, 2, 1, 0, 5), plain(6, 2, 1, 0, 5), plain(7, 2, 1, 0, 5), plain(8, 2, 1, 0, 5),
		offerOf(t, 2, 1, 0, 6, copyOf(9)), offerOf(t, 2, 1, 0, 6, copyOfSize(t, 1400)), offerOf(t, 2, 1, 0, 5, copyOf(9)),
	} {
		for _, l := range []api.Ledger{owned(4, 1), offered(5, 2), committed(5, 2), installed(5, 2), released(5, 2)} {
			for _, isCut := range []bool{false, true} {
				p := pairOf(t, 1, 3, known{l, copyOf(9)})
				right := form(t, m)
				if isCut {
					right = right[1:]
				}
				list, all := roomy(right)
				said, err := p.o.Hear(list)
				wantErr(t, "Hear", err, api.OK)
				wantBytes(t, "what was heard", all, append(slices.Clone(right), "behind"...))
				spoil(all)
				wanted, _ := p.m.hear(right)
				wantText(t, "what was heard is spoilt", told(said), told(wanted))
				state := p.tale()
				p.deeds()
				again := opened(t, "behind it", loaded(t, p.d.Image()), 1, p.s)
				wantBytes(t, "opened again", again.Bytes(), []byte(state))
				for _, next := range []api.Mail{ask(1, 3, 1, 0, put("a", text(40, 1))), ask(1, 3, 2, 0, get("a")), ask(1, 0, 9, 0, seek("")), plain(5, 2, 1, 0, 6)} {
					p.hear(next)
				}
				p.tick()
			}
		}
	}
}

// P22.13, P0.4: what Hear, Move and Tick answer is new memory each time; spoilt, it changes neither what is told nor what is said again.
func TestLettersAreNew(t *testing.T) {
	row := []known{{owned(4, 1), copyOf(9)}, {offered(5, 2), copyOf(20)}, {offered(5, 2), copyOf(20)}, {owned(4, 1), copyOf(9)}}
	p := pairOf(t, 1, 3, row...)
	wanted := p.tale()
	var said []api.Letter
	ask0 := ask(1, 0, 7, 0, put(keyOf(0, 4, 0), "1"))
	seat, _ := shardOf(t, copyOf(9)).Seat(0)
	for range 3 {
		said, _ = p.o.Hear(form(t, ask0))
		wantSent(t, "Hear of what was done", said, api.OK, answered(ask0, seat.Answer))
		spoilLetters(said)
		read := ask(1, 9, 1, 0, seek("k1"))
		said, _ = p.o.Hear(form(t, read))
		wantNum(t, "Hear of a read", len(said), 1)
		spoilLetters(said)
		p.m.loads[0] += 2
		wantText(t, "letters are spoilt", p.tale(), wanted)
	}
	said, err := p.o.Move(3, 2)
	p.m.move(3, 2)
	wantSent(t, "Move", said, err, offerOf(t, 1, 2, 3, 5, copyOf(9)))
	spoilLetters(said)
	wanted = p.tale()
	for range 30 {
		said, err = p.o.Tick()
		again, _ := p.m.tick()
		wantErr(t, "Tick", err, api.OK)
		wantText(t, "Tick", told(said), told(again))
		spoilLetters(said)
		wantText(t, "letters are spoilt", p.tale(), wanted)
	}
	for range 3 {
		said, err = p.o.Hear(form(t, plain(4, 2, 1, 1, 5)))
		wantSent(t, "HAVE", said, err, plain(5, 1, 2, 1, 5))
		spoilLetters(said)
	}
	p.m.hear(form(t, plain(4, 2, 1, 1, 5)))
	p.tale()
}

// P22.13, P0.4: no two letters of one answer share their Data, nor do two answers.
func TestLettersAreApart(t *testing.T) {
	row := []known{{offered(5, 2), copyOf(9)}, {offered(5, 2), copyOf(9)}, {committed(5, 2), nil}, {installed(5, 2), nil}}
	for i := range row {
		p := pairOf(t, 1, 3, row...)
		first, _ := p.tick()
		p.tick()
		second, _ := p.tick()
		wantNum(t, "letters", len(first), len(row))
		wantText(t, "the third tick", told(second), told(first))
		kept := told(second)
		spoil(first[i].Data)
		for j, l := range first {
			if j != i {
				wantBytes(t, "another letter", l.Data, second[j].Data)
			}
		}
		spoilLetters(first)
		wantText(t, "another answer", told(second), kept)
	}
}

// P22.13, P0.4: Deeds, Loads, Bytes and Export are new memory each time, the room behind them too; deeds that were asked for are not written over by later ones.
func TestListsAreNew(t *testing.T) {
	p := pairOf(t, 1, 3, known{owned(4, 1), copyOf(9)}, known{owned(4, 1), nil})
	spoilt := api.Deed{Shard: 77, Rev: 77, Client: 77, Seq: 77}
	var all [][]api.Deed
	for seq := 1; seq <= 40; seq++ {
		p.hear(ask(1, 12, seq, 0, put(keyOf(0, 2, 0), "1")))
		p.tick()
		if seq%3 == 0 {
			continue
		}
		wanted := toldDeeds(p.m.deeds)
		deeds := p.deeds()
		wantText(t, "Deeds", toldDeeds(deeds), wanted)
		for _, earlier := range all {
			if slices.ContainsFunc(earlier, func(d api.Deed) bool { return d != spoilt }) {
				t.Fatalf("later deeds stand in a list that was answered earlier: %v", earlier)
			}
		}
		deeds = deeds[:cap(deeds)]
		for i := range deeds {
			deeds[i] = spoilt
		}
		all = append(all, deeds)
	}
	wanted := p.tale()
	for range 3 {
		loads := p.o.Loads()
		loads = loads[:cap(loads)]
		for i := range loads {
			loads[i] = 77
		}
		spoil(p.o.Bytes())
		spoil(p.o.Export(0))
		spoil(p.o.Export(1))
		wantText(t, "lists are spoilt", p.tale(), wanted)
	}
	last := ask(1, 12, 40, 0, put(keyOf(0, 2, 0), "1"))
	seat, _ := shardOf(t, p.o.Export(0)).Seat(12)
	p.wantHeard(last, answered(last, seat.Answer))
}
