package server_test

import (
	"fmt"
	"testing"

	"haulage/api"
	"haulage/jump"
)

// opsOf are ops of each kind with a key, writes ahead of reads.
func opsOf(key string) []api.Op {
	return []api.Op{put(key, "1"), put(key, ""), remove(key), swap(key, "2", 0), swap(key, "2", 1), get(key), seek(key)}
}

// P22.3: shards that there are not, of each number of shards; the last one that there is.
func TestNoSuchShard(t *testing.T) {
	for _, shards := range []int{1, 2, 3, 63, 64} {
		row := make([]known, shards)
		for i := range row {
			row[i].l = owned(4, 1)
		}
		p := pairOf(t, 1, 2, row...)
		for shard := shards; shard < maxShards; shard++ {
			wantDeaf(t, "no such shard", p, form(t, ask(1, 3, 1, shard, seek("a"))))
			wantDeaf(t, "no such shard", p, form(t, ask(1, 3, 1, shard, put(keyOf(shard, 64, 0), "1"))))
			wantDeaf(t, "no such shard", p, form(t, ask(1, 3, 1, shard, put("a", "1"))))
		}
		request := ask(1, 3, 1, shards-1, put(keyOf(shards-1, shards, 0), "1"))
		p.wantHeard(request, answered(request, api.Answer{Done: true, At: 1}))
	}
}

// P22.3: keys of each shard at each shard, in each phase, with each kind of op; of another shard a Seek alone may have a key, or none.
func TestKeyOfAnotherShard(t *testing.T) {
	const shards = 6
	row := knownOf(owned(4, 1), offered(5, 2), committed(5, 2), installed(5, 2), released(5, 2), absent(jump.Home(5, 3)))
	if jump.Home(5, 3) == 1 {
		t.Fatal("shard 5 is at home")
	}
	p := pairOf(t, 1, 3, row...)
	for shard := range shards {
		for i := range 40 {
			key := fmt.Sprint("key", i)
			isIts := jump.Shard([]byte(key), shards) == shard
			for n, op := range opsOf(key) {
				said, err := p.hear(ask(1, n, i+1, shard, op))
				wantErr(t, "Hear", err, api.OK)
				if n != 6 && !isIts {
					wantNum(t, "letters of a key of another shard", len(said), 0)
				} else {
					wantNum(t, "letters", len(said), 1)
				}
				p.deeds()
			}
		}
		for _, key := range []string{"", text(64, 1), text(65, 1)} {
			said, err := p.hear(ask(1, 9, 1, shard, seek(key)))
			wantErr(t, "Hear", err, api.OK)
			wantNum(t, "letters of a Seek", len(said), 1)
		}
	}
}

// P22.3: what is said in each phase in which a shard is not served, whatever is asked: the verdict, the ledger's Peer as the hint, all else zero; nothing is done, and nothing counted. From the first server to the last, and of each client.
func TestNotServed(t *testing.T) {
	for _, number := range []int{0, 3, 7} {
		for peer := range maxServers {
			if peer == number {
				continue
			}
			row := knownOf(offered(5, peer), committed(5, peer), installed(5, peer), released(5, peer))
			p := pairOf(t, number, 8, row...)
			for shard := range row {
				verdict := errFrozen
				if row[shard].l.Phase == api.Released {
					verdict = errWrongOwner
				}
				for n, op := range opsOf(keyOf(shard, 4, 0)) {
					request := ask(number, (peer+n)%maxClients, []int{1, 77, maxSeq}[n%3], shard, op)
					before := countsOf(p.d, false)
					p.wantHeard(request, refused(request, verdict, peer))
					if now := countsOf(p.d, false); now != before {
						t.Fatalf("the disk: %v, it was %v", now, before)
					}
				}
			}
			wantLoads(t, "not served", p.o, 0, 0, 0, 0)
			wantDeeds(t, "not served", p.o)
		}
	}
}

// P22.3: shards that were never here: the hint is their home.
func TestNotServedAbsent(t *testing.T) {
	for servers := 2; servers <= maxServers; servers++ {
		for number := range servers {
			p := pairOfNew(t, setupOf(servers, 9), number)
			for shard := range 9 {
				request := ask(number, 15, 1, shard, get(keyOf(shard, 9, 1)))
				if home := jump.Home(shard, servers); home != number {
					p.wantHeard(request, refused(request, errWrongOwner, home))
				} else {
					p.wantHeard(request, answered(request, api.Answer{}))
				}
			}
		}
	}
}

// P22.3: the seat of a client at a shard that is not served is not asked: what was done is answered only where the shard is owned.
func TestSeatsAreNotServed(t *testing.T) {
	s := shardOf(t, emptyCopy())
	a, _, _ := s.Do(3, 7, put("a", "1"))
	for _, l := range []api.Ledger{offered(5, 2), committed(5, 2), installed(5, 2)} {
		p := pairOf(t, 1, 3, known{l, s.Export()})
		for _, seq := range []int{6, 7, 8} {
			request := ask(1, 3, seq, 0, put("a", "1"))
			p.wantHeard(request, refused(request, errFrozen, 2))
		}
	}
	p := pairOf(t, 1, 3, known{owned(5, 1), s.Export()})
	request := ask(1, 3, 7, 0, put("a", "1"))
	p.wantHeard(request, answered(request, a))
}

// P22.3: reads, new writes, and what was done, of two shards; the meter is hit with 1, and with 2 for a new write; a write is a deed once.
func TestServed(t *testing.T) {
	p := pairOf(t, 1, 2, knownOf(owned(4, 1), owned(4, 1))...)
	a, b, other := keyOf(0, 2, 0), keyOf(0, 2, 1), keyOf(1, 2, 0)
	loads := [2]float64{}
	for i, c := range []struct {
		client, seq, shard int
		op                 api.Op
		answer             api.Answer
		isDeed             bool
	}{
		{3, 1, 0, get(a), api.Answer{}, false},
		{3, 2, 0, put(a, "1"), api.Answer{Done: true, At: 1}, true},
		{3, 2, 0, put(a, "1"), api.Answer{Done: true, At: 1}, false},
		{3, 2, 0, get(a), api.Answer{Done: true, At: 1}, false},
		{3, 2, 0, put(b, "9"), api.Answer{Done: true, At: 1}, false},
		{3, 3, 0, get(a), api.Answer{Done: true, Key: []byte(a), Value: []byte("1"), Rev: 1, At: 1}, false},
		{3, 3, 0, get(b), api.Answer{At: 1}, false},
		{0, 1, 0, swap(a, "2", 1), api.Answer{Done: true, Key: []byte(a), Value: []byte("1"), Rev: 1, At: 2}, true},
		{15, 1, 0, swap(a, "3", 1), api.Answer{Key: []byte(a), Value: []byte("2"), Rev: 2, At: 3}, true},
		{15, 1, 0, swap(a, "3", 1), api.Answer{Key: []byte(a), Value: []byte("2"), Rev: 2, At: 3}, false},
		{3, 2, 0, put(a, "1"), api.Answer{Done: true, At: 1}, false},
		{0, maxSeq, 0, remove(b), api.Answer{At: 4}, true},
		{3, 3, 0, remove(a), api.Answer{Done: true, Key: []byte(a), Value: []byte("2"), Rev: 2, At: 5}, true},
		{3, 4, 0, seek(""), api.Answer{At: 5}, false},
		{3, 4, 1, put(other, ""), api.Answer{Done: true, At: 1}, true},
		{3, 5, 1, seek(""), api.Answer{Done: true, Key: []byte(other), Rev: 1, At: 1}, false},
		{3, 5, 1, seek(other + "x"), api.Answer{At: 1}, false},
		{3, 1, 1, get(other), api.Answer{}, false},
	} {
		what := fmt.Sprint("row ", i)
		request := ask(1, c.client, c.seq, c.shard, c.op)
		if i == 17 {
			wantDeaf(t, what, p, form(t, request)) // that client has written with a greater seq
			continue
		}
		p.wantHeard(request, answered(request, c.answer))
		var wanted []api.Deed
		loads[c.shard]++
		if c.isDeed {
			loads[c.shard]++
			wanted = []api.Deed{{Shard: c.shard, Rev: c.answer.At, Client: c.client, Seq: c.seq}}
		}
		wantText(t, what, toldDeeds(p.deeds()), toldDeeds(wanted))
		wantLoads(t, what, p.o, loads[:]...)
	}
}

// P22.3: Peek's errors but ErrShardFull: a seq below the client's last one, and the end of revisions. No letter, nothing is done, nothing counted; what is answered all the same is.
func TestPeekRefuses(t *testing.T) {
	p := pairOf(t, 1, 2, known{owned(4, 1), copyAt(t, maxRev-1, 7)})
	for _, seq := range []int{1, 6} {
		for _, op := range opsOf("a") {
			wantDeaf(t, "an old seq", p, form(t, ask(1, 0, seq, 0, op)))
		}
	}
	wantLoads(t, "old seqs", p.o, 0)
	last := ask(1, 0, 8, 0, put("a", "1"))
	p.wantHeard(last, answered(last, api.Answer{Done: true, At: maxRev}))
	wantText(t, "the last revision", toldDeeds(p.deeds()), toldDeeds([]api.Deed{{Shard: 0, Rev: maxRev, Client: 0, Seq: 8}}))
	wantLoads(t, "the last revision", p.o, 2)
	for n, op := range opsOf("a") {
		for _, client := range []int{0, 5} {
			request := ask(1, client, 9, 0, op)
			if n < 5 {
				wantDeaf(t, "at the end of revisions", p, form(t, request))
				continue
			}
			p.wantHeard(request, answered(request, api.Answer{Done: true, Key: []byte("a"), Value: []byte("1"), Rev: maxRev, At: maxRev}))
		}
	}
	p.wantHeard(last, answered(last, api.Answer{Done: true, At: maxRev}))
	wantLoads(t, "at the end", p.o, 7)
}

// P22.3: a copy that would be longer than a copy may be: ErrDiskFull, though slot and log have room; a byte less has it.
func TestCopyIsFull(t *testing.T) {
	s := setupOf(2, 1)
	s.Layout.Shot = 5000
	image := imageOf(t, s, 1, formOf(t, 1, 2, []known{{owned(4, 1), copyOfSize(t, maxCopy-30)}}))
	for size := range 40 {
		p := pairOver(t, s, 1, image)
		request := ask(1, 3, 1, 0, put("new", text(size, 1)))
		whole := shardOf(t, p.o.Export(0))
		after, err := whole.After(3, 1, request.Op)
		before := countsOf(p.d, false)
		if isTooLong := err != api.OK; isTooLong != (size > 15) || size == 15 && after != maxCopy {
			t.Fatalf("a value of %d bytes: %d bytes behind it, error %d", size, after, err)
		}
		if size <= 15 {
			p.wantHeard(request, answered(request, api.Answer{Done: true, At: whole.Rev() + 1}))
			continue
		}
		p.wantHeard(request, refused(request, errDiskFull, 0))
		if now := countsOf(p.d, false); now != before {
			t.Fatalf("the disk: %v, it was %v", now, before)
		}
		wantLoads(t, "a copy that is full", p.o, 0)
		wantDeeds(t, "a copy that is full", p.o)
		read := ask(1, 3, 1, 0, get("new"))
		said, err := p.hear(read)
		wantErr(t, "a read", err, api.OK)
		wantNum(t, "a read", len(said), 1)
	}
}

// P22.3: a slot that is full: ErrDiskFull; a byte less has room. What makes the state no longer is done.
func TestSlotIsFull(t *testing.T) {
	room := 0
	for size := range 60 {
		p := pairOf(t, 1, 2, known{owned(4, 1), copyOfSize(t, 3990)})
		request := ask(1, 3, 1, 0, put("new", text(size, 1)))
		before := countsOf(p.d, false)
		said, err := p.hear(request)
		wantErr(t, "Hear", err, api.OK)
		if got := countsOf(p.d, false); got != before {
			wantNum(t, "room for so many bytes", room, size)
			room++
			wantNum(t, "Deeds", len(p.deeds()), 1)
			continue
		}
		wantSent(t, "no room", said, err, refused(request, errDiskFull, 0))
		wantLoads(t, "no room", p.o, 0)
		wantDeeds(t, "no room", p.o)
		smaller := ask(1, 0, maxSeq, 0, remove("x"))
		said, err = p.hear(smaller)
		wantErr(t, "a Delete", err, api.OK)
		wantNum(t, "a Delete", len(said), 1)
		wantNum(t, "Deeds", len(p.deeds()), 1)
	}
	if room < 10 || room > 50 {
		t.Fatalf("room for values of up to %d bytes", room)
	}
}

// P22.3, and DOC.md's example 8: a log that is full: ErrLogFull, nothing has changed; reads and what was done are answered; behind the next tick's checkpoint the next try goes well.
func TestLogIsFull(t *testing.T) {
	p := pairOfNew(t, setupOf(1, 1), 0)
	for seq := 1; seq <= 23; seq++ {
		request := ask(0, 3, seq, 0, put("a", "1"))
		said, err := p.hear(request)
		wantErr(t, "a write", err, api.OK)
		wantNum(t, "a write", len(said), 1)
	}
	wantNum(t, "Deeds", len(p.deeds()), 23)
	image := p.d.Image()
	next := ask(0, 3, 24, 0, put("a", "2"))
	for range 3 {
		p.wantHeard(next, refused(next, errLogFull, 0))
	}
	wantLoads(t, "a full log", p.o, 46)
	wantText(t, "Deeds", toldDeeds(p.deeds()), toldDeeds(nil))
	read := ask(0, 3, 24, 0, get("a"))
	row := api.Answer{Done: true, Key: []byte("a"), Value: []byte("1"), Rev: 23, At: 23}
	p.wantHeard(read, answered(read, row))
	wantLoads(t, "a read", p.o, 47)
	wantBytes(t, "the disk", p.d.Image(), image)
	said, err := p.tick()
	wantSent(t, "Tick", said, err)
	row.At = 24
	p.wantHeard(next, answered(next, row))
	wantText(t, "Deeds", toldDeeds(p.deeds()), toldDeeds([]api.Deed{{Rev: 24, Client: 3, Seq: 24}}))
	wantLoads(t, "behind the tick", p.o, 49)
}

// P22.3: a write for which the log has no room though it is half empty, while a shorter one has; without a further generation no tick helps.
func TestLogIsTooSmall(t *testing.T) {
	s := setupOf(1, 1)
	for _, gen := range []int{1, maxTime} {
		p := pairOver(t, s, 0, imageOf(t, s, gen, formOf(t, 0, 1, knownOf(owned(0, 0)))))
		for seq := 1; seq <= 21; seq++ {
			p.hear(ask(0, 3, seq, 0, put("a", "1")))
		}
		long, small := ask(0, 4, 1, 0, put("b", text(256, 1))), ask(0, 5, 1, 0, put("c", ""))
		p.wantHeard(long, refused(long, errLogFull, 0))
		p.wantHeard(small, answered(small, api.Answer{Done: true, At: 22}))
		p.tick()
		if gen == maxTime {
			p.wantHeard(long, refused(long, errLogFull, 0))
		} else {
			p.wantHeard(long, answered(long, api.Answer{Done: true, At: 23}))
		}
		p.deeds()
	}
}

// P22.6: deeds stand in the order in which they were done, whatever their shards; those of which nobody asks are kept; asked twice, there are none.
func TestDeeds(t *testing.T) {
	p := pairOf(t, 1, 2, knownOf(owned(4, 1), owned(4, 1), owned(4, 1))...)
	var wanted []api.Deed
	revs := [3]int{}
	for i := range 200 {
		shard, client := (i*i+i/3)%3, i*7%16
		p.hear(ask(1, client, i+1, shard, put(keyOf(shard, 3, i%4), text(i%9, i))))
		p.hear(ask(1, client, i+1, shard, put(keyOf(shard, 3, i%4), text(i%9, i))))
		revs[shard]++
		wanted = append(wanted, api.Deed{Shard: shard, Rev: revs[shard], Client: client, Seq: i + 1})
		p.hear(ask(1, client, i+2, shard, get(keyOf(shard, 3, i%4))))
		p.tick()
		if i%50 == 40 {
			wantText(t, "Deeds", toldDeeds(p.deeds()), toldDeeds(wanted))
			wantText(t, "Deeds, asked twice", toldDeeds(p.deeds()), toldDeeds(nil))
			wanted = nil
		}
	}
	p.fuse(0)
	_, err := p.hear(ask(1, 0, 900, 0, put(keyOf(0, 3, 0), "1")))
	wantErr(t, "a write without power", err, errEngDead)
	wantText(t, "Deeds of a dead one", toldDeeds(p.deeds()), toldDeeds(wanted))
	wantText(t, "Deeds of a dead one, asked twice", toldDeeds(p.deeds()), toldDeeds(nil))
}
