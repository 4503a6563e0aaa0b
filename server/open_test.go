package server_test

import (
	"bytes"
	"testing"

	"haulage/api"
	"haulage/disk"
	"haulage/engine"
	"haulage/server"
)

// wantNoServer asks for an error of Open, which the engine's Open over such a disk has, too; the disk is used in the same way.
func wantNoServer(t *testing.T, what string, d, twin *disk.Disk, number int, s api.Setup, wanted api.Errno) {
	t.Helper()
	o, err := server.Open(d, number, s)
	wantErr(t, what, err, wanted)
	if o != nil {
		t.Fatalf("%s: a server beside an error", what)
	}
	_, err = engine.Open(twin, number, s)
	wantErr(t, what+": the engine", err, wanted)
	wantBytes(t, what+": the disk", d.Image(), twin.Image())
	if got, other := countsOf(d, false), countsOf(twin, false); got != other {
		t.Fatalf("%s: the disk: %v, want %v", what, got, other)
	}
}

// P22.1, P0.2: a disk that there is not comes ahead of numbers that may not be.
func TestOpenOfNone(t *testing.T) {
	wantNoServer(t, "no disk", nil, nil, 0, setupOf(2, 1), errNil)
	wantNoServer(t, "no disk, and no setup", nil, nil, -1, api.Setup{}, errNil)
}

// P22.1: numbers that may not be.
func TestOpenOfWrongNumbers(t *testing.T) {
	right := setupOf(3, 2)
	setups := map[string]func(s *api.Setup, n int){
		"Servers": func(s *api.Setup, n int) { s.Servers = n },
		"Shards":  func(s *api.Setup, n int) { s.Shards = n },
		"Log":     func(s *api.Setup, n int) { s.Layout.Log = n },
		"Shot":    func(s *api.Setup, n int) { s.Layout.Shot = n },
	}
	wrong := map[string][]int{"Servers": {0, 1, 9, 100}, "Shards": {-1, 0, 65, 100}, "Log": {0, 23, 25, 4097}, "Shot": {0, 63, 65, 16385}}
	refuse := func(what string, number int, s api.Setup) {
		t.Helper()
		wantNoServer(t, what, loaded(t, blank(right)), loaded(t, blank(right)), number, s, errArg)
	}
	for field, set := range setups {
		for _, n := range append(farNumbers(), wrong[field]...) {
			s := right
			set(&s, n)
			refuse(field, 1, s)
		}
	}
	for _, number := range append(farNumbers(), -1, 3, 7, 8) {
		refuse("number", number, right)
	}
	small := blank(right)[64:]
	wantNoServer(t, "a disk that is too small", loaded(t, small), loaded(t, small), 1, right, errArg)
}

// P22.1: the power goes ahead of the first read, and ahead of each write and sync; once there is power enough, there is a server.
func TestOpenWithoutPower(t *testing.T) {
	s := setupOf(2, 1)
	for fuse := 0; ; fuse++ {
		d, twin := loaded(t, blank(s)), loaded(t, blank(s))
		d.Fuse(fuse)
		twin.Fuse(fuse)
		if o, err := server.Open(d, 1, s); err == api.OK {
			if fuse < 4 || o.Dead() {
				t.Fatalf("fuse %d: a server, dead: %v", fuse, o.Dead())
			}
			break
		}
		d = loaded(t, blank(s))
		d.Fuse(fuse)
		wantNoServer(t, "Open without power", d, twin, 1, s, errDiskPower)
	}
	d := loaded(t, blank(s))
	opened(t, "a new disk", d, 0, s)
	twin := loaded(t, d.Image())
	d.Fuse(0)
	twin.Fuse(0)
	d = loaded(t, d.Image())
	d.Fuse(0)
	wantNoServer(t, "Open again without power", d, twin, 0, s, errDiskPower)
}

// P22.1: disks that are another server's, another setup's, or nobody's.
func TestOpenOfAnotherDisk(t *testing.T) {
	s := setupOf(3, 2)
	d := loaded(t, blank(s))
	opened(t, "a new disk", d, 1, s)
	image := d.Image()
	refuse := func(what string, number int, s api.Setup, image []byte) {
		t.Helper()
		wantNoServer(t, what, loaded(t, image), loaded(t, image), number, s, errEngDisk)
	}
	refuse("another server", 0, s, image)
	refuse("another server", 2, s, image)
	refuse("fewer servers", 1, setupOf(2, 2), image)
	refuse("more shards", 1, setupOf(3, 3), image)
	refuse("fewer shards", 1, setupOf(3, 1), image)
	refuse("no state", 1, s, imageOf(t, s, 1, []byte("no state")))
	noLog := bytes.Clone(image)
	clear(noLog[:64*24])
	refuse("no log", 1, s, noLog)
}

// P22.1, P22.7: what a new server tells, of each number; Clients and Seed of the setup do not count.
func TestOpen(t *testing.T) {
	for servers := 1; servers <= maxServers; servers++ {
		for number := range servers {
			for _, shards := range []int{1, 2, 63, 64} {
				s := setupOf(servers, shards)
				s.Clients, s.Seed = 99, 7
				d := loaded(t, blank(s))
				o := opened(t, "a new disk", d, number, s)
				wantNum(t, "Number", o.Number(), number)
				wantNum(t, "Clock", o.Clock(), 0)
				wantDeeds(t, "a new server", o)
				wantSpans(t, "a new server", o)
				wantLoads(t, "a new server", o, make([]float64, shards)...)
				if o.Dead() {
					t.Fatal("a new server is dead")
				}
				for shard := range shards {
					l := atFirst(shard, number, servers)
					wantLedger(t, "a new server", o, shard, l)
					wanted := emptyCopy()
					if !keeps(l) {
						wanted = nil
					}
					wantBytes(t, "Export", o.Export(shard), wanted)
				}
				p := pairOver(t, s, number, d.Image())
				wantBytes(t, "Bytes", o.Bytes(), p.o.Bytes())
			}
		}
	}
}

// P22.1, P22.6: all but the engine's state begins anew with each Open, also over the same disk as a server that still is.
func TestOpenAgain(t *testing.T) {
	const home, other = 0, 1
	p := pairOf(t, 0, 2, knownOf(owned(3, 0), released(3, 1))...)
	for seq := 1; seq < 5; seq++ {
		p.hear(ask(0, 3, seq, home, put(keyOf(home, 2, 0), text(seq, seq))))
	}
	p.move(home, 1)
	for range 20 {
		p.tick()
	}
	p.hear(plain(4, 1, 0, home, 4))
	p.hear(plain(6, 1, 0, home, 4))
	wantSpans(t, "ahead", p.o, 20)
	p.hear(offerOf(t, 1, 0, other, 9, copyOf(4)))
	first, bytesThen := p.o, p.o.Bytes()
	wantErr(t, "Open", p.open(), api.OK)
	wantBytes(t, "Bytes", p.o.Bytes(), bytesThen)
	wantNum(t, "Clock", p.o.Clock(), 0)
	wantLoads(t, "opened again", p.o, 0, 0)
	wantSpans(t, "opened again", p.o)
	wantDeeds(t, "opened again", p.o)
	wantLedger(t, "opened again", p.o, home, released(4, 1))
	wantLedger(t, "opened again", p.o, other, installed(9, 1))

	wantNum(t, "the first one's Clock", first.Clock(), 20)
	wantSpans(t, "the first one", first, 20)
	wantNum(t, "the first one's Deeds", len(first.Deeds()), 4)
	wantLoads(t, "the first one", first, 4, 0)
}

// P22.1: of what waits a restart knows nothing: the first tick says again what is under way.
func TestWaitsBeginAnew(t *testing.T) {
	p := pairOf(t, 0, 2, known{offered(1, 1), copyOf(3)})
	offer := offerOf(t, 0, 1, 0, 1, copyOf(3))
	for range 9 {
		p.tick()
	}
	said, err := p.tick()
	wantSent(t, "the tenth tick", said, err)
	wantErr(t, "Open", p.open(), api.OK)
	said, err = p.tick()
	wantSent(t, "the first tick", said, err, offer)
}
