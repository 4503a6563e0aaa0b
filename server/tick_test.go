package server_test

import (
	"fmt"
	"testing"

	"haulage/api"
)

// P22.4: what is under way is said again behind 1, 2, 4, 8, 8, .. ticks, shard by shard; the clock goes on by one each time.
func TestTickSaysAgain(t *testing.T) {
	row := []known{{offered(5, 2), copyOf(3)}, {owned(4, 1), nil}, {committed(6, 0), nil}, {installed(7, 2), copyOf(1)}, {released(8, 0), nil}}
	p := pairOf(t, 1, 3, row...)
	all := []api.Mail{offerOf(t, 1, 2, 0, 5, copyOf(3)), plain(5, 1, 0, 2, 6), plain(4, 1, 2, 3, 7)}
	for tick := 1; tick <= 50; tick++ {
		said, err := p.tick()
		wanted := all
		if tick != 1 && tick != 3 && tick%8 != 7 {
			wanted = nil
		}
		wantSent(t, fmt.Sprint("tick ", tick), said, err, wanted...)
		wantNum(t, "Clock", p.o.Clock(), tick)
	}
}

// P22.4, P22.7: loads are halved with every sixteenth tick, whether anybody asks or not; what is asked at a tick counts from then on.
func TestTickHalvesLoads(t *testing.T) {
	p := pairOf(t, 1, 2, knownOf(owned(4, 1), owned(4, 1))...)
	read := ask(1, 3, 1, 0, get(keyOf(0, 2, 0)))
	for range 5 {
		p.hear(read)
	}
	for tick := 1; tick <= 15; tick++ {
		p.tick()
		wantLoads(t, "ahead of the half life", p.o, 5, 0)
	}
	p.tick()
	wantLoads(t, "behind a half life", p.o, 2.5, 0)
	p.hear(read)
	p.hear(ask(1, 3, 2, 1, put(keyOf(1, 2, 0), "1")))
	wantLoads(t, "behind a half life", p.o, 3.5, 2)
	for tick := 17; tick <= 31; tick++ {
		p.tick()
	}
	wantLoads(t, "ahead of the second one", p.o, 3.5, 2)
	p.hear(read)
	p.tick()
	wantLoads(t, "behind the second one", p.o, 2.25, 1)
	for range 16 * 1080 {
		if _, err := p.o.Tick(); err != api.OK {
			t.Fatalf("Tick: error %d", err)
		}
	}
	wantLoads(t, "behind a long time", p.o, 0, 0)
}

// P22.4: a checkpoint comes once more than half of the log is used, and not before; it changes nothing of what is told.
func TestTickTidies(t *testing.T) {
	p := pairOfNew(t, setupOf(1, 1), 0)
	tidied := 0
	for seq := 1; seq <= 100; seq++ {
		said, err := p.hear(ask(0, 3, seq, 0, put("a", "1")))
		wantErr(t, "a write", err, api.OK)
		wantNum(t, "a write", len(said), 1)
		wanted := p.o.Bytes()
		before := countsOf(p.d, false)
		said, err = p.tick()
		wantSent(t, "Tick", said, err)
		if now := countsOf(p.d, false); now != before {
			wantNum(t, "writes since the last checkpoint", seq, 12*(tidied+1))
			tidied++
		}
		wantBytes(t, "Bytes", p.o.Bytes(), wanted)
		again := opened(t, "behind a tick", loaded(t, p.d.Image()), 0, p.s)
		wantBytes(t, "opened again", again.Bytes(), wanted)
	}
	wantNum(t, "checkpoints", tidied, 8)
	p.deeds()
}

// P22.4: the Tidy that kills, ahead of each of its writes and syncs: no letter; the clock has gone on, the loads have not, and nothing goes on any more.
func TestTickDies(t *testing.T) {
	for fuse := 0; ; fuse++ {
		p := pairOf(t, 1, 2, knownOf(owned(4, 1), offered(5, 0))...)
		for range 15 {
			p.tick()
		}
		for seq := 1; seq <= 12; seq++ {
			p.hear(ask(1, 3, seq, 0, put(keyOf(0, 2, 0), "1")))
		}
		wanted := p.o.Bytes()
		p.fuse(fuse)
		said, err := p.tick()
		wantNum(t, "Clock", p.o.Clock(), 16)
		if err == api.OK {
			wantLoads(t, "behind a half life", p.o, 12, 0)
			if fuse < 6 {
				t.Fatalf("fuse %d: there was power enough", fuse)
			}
			return
		}
		wantNone(t, "Tick without power", said, err, errEngDead)
		if !p.o.Dead() {
			t.Fatal("it is not dead")
		}
		wantLoads(t, "a dead one", p.o, 24, 0)
		said, err = p.tick()
		wantNone(t, "Tick of a dead one", said, err, errEngDead)
		wantNum(t, "Clock of a dead one", p.o.Clock(), 16)
		wantNum(t, "Deeds", len(p.deeds()), 12)
		for _, keep := range [][]bool{nil, {true, true, true, true, true, true, true, true, true}} {
			d := loaded(t, p.d.Image())
			if keep != nil {
				p.crash(keep, -1, 0)
				d = p.d
			}
			wantBytes(t, "opened again", opened(t, "behind a crash", d, 1, p.s).Bytes(), wanted)
		}
	}
}

// P22.4: as long as there is nothing to tidy, a tick needs no power.
func TestTickWithoutPower(t *testing.T) {
	p := pairOf(t, 1, 2, knownOf(owned(4, 1), offered(5, 0))...)
	p.fuse(0)
	for tick := 1; tick <= 9; tick++ {
		said, err := p.tick()
		wantErr(t, "Tick", err, api.OK)
		wantNum(t, "letters", len(said), map[int]int{1: 1, 3: 1, 7: 1}[tick])
	}
	if p.o.Dead() {
		t.Fatal("it is dead")
	}
}
