package engine_test

import (
	"fmt"
	"testing"

	"haulage/api"
	"haulage/disk"
	"haulage/engine"
	"haulage/record"
	"haulage/state"
)

// mixed are records that make of server 0 out of 3, with six shards, a state with a shard in each phase: 0 Owned, 1 Offered, 2 Installed, 3 Absent, 4 Released, 5 Committed.
func mixed() []api.Record {
	return []api.Record{
		puts(1), write(1, 3, 1, put("b", "2")), offer(1, 2),
		install(2, 7, 1, copyOf(9)),
		install(4, 2, 1, copyOf(2)), plain(api.RecForget, 4),
		write(5, 4, 9, put("c", "3")), offer(5, 1), plain(api.RecCommit, 5),
	}
}

// mixedPair is an engine with that state, and its telling.
func mixedPair(t *testing.T) *pair {
	t.Helper()
	s := small(3, 6)
	p, err := openPair(t, "a new disk", make([]byte, 64*180), 0, s, -1)
	wantErr(t, "a new disk", err, api.OK)
	for _, r := range mixed() {
		wantErr(t, "a record", p.do(t, "making it", r), api.OK)
	}
	for shard, phase := range []int{api.Owned, api.Offered, api.Installed, api.Absent, api.Released, api.Committed} {
		l, err := p.e.Ledger(shard)
		wantErr(t, "Ledger", err, api.OK)
		wantNum(t, fmt.Sprint("phase of shard ", shard), l.Phase, phase)
	}
	return p
}

// recordsOfAllKinds are sound records of each kind for a shard, taken or not.
func recordsOfAllKinds(shard int) []api.Record {
	all := []api.Record{
		write(shard, 3, 1, put("a", "1")), write(shard, 3, 2, put("a", "")), write(shard, 0, maxSeq, del("a")), write(shard, 15, 1, swap("b", text(256, 1), maxRev)), write(shard, 0, 5, put(text(64, 1), text(256, 2))),
		offer(shard, 0), offer(shard, 1), offer(shard, 2), offer(shard, 3), offer(shard, 7),
		install(shard, 1, 1, copyOf(3)), install(shard, 8, 2, copyOf(3)), install(shard, 8, 3, copyOf(3)), install(shard, 8, 0, copyOf(3)), install(shard, maxEpoch-1, 1, nil), install(shard, maxEpoch, 1, copyOf(1)), install(shard, 9, 1, copyOf(1)[1:]), install(shard, 9, 1, copyOf(100)),
	}
	for _, kind := range []int{api.RecCancel, api.RecCommit, api.RecOwn, api.RecRelease, api.RecForget} {
		all = append(all, plain(kind, shard))
	}
	return all
}

// unsound are records that no kind lets through, each by one field.
func unsound(shard int) []api.Record {
	all := []api.Record{
		{}, plain(0, shard), plain(9, shard), plain(-1, shard), plain(1<<40, shard),
		write(shard, 16, 1, put("a", "1")), write(shard, -1, 1, put("a", "1")), write(shard, 0, 0, put("a", "1")), write(shard, 0, maxSeq+1, put("a", "1")),
		write(shard, 0, 50, get("a")), write(shard, 0, 50, put("", "1")), write(shard, 0, 50, put(text(65, 1), "")), write(shard, 0, 50, put("a", text(257, 1))), write(shard, 0, 50, api.Op{Kind: api.OpDelete, Key: []byte("a"), Rev: 1}), write(shard, 0, 50, swap("a", "", -1)), write(shard, 0, 50, swap("a", "", maxRev+1)), write(shard, 0, 50, api.Op{Kind: api.OpSeek}), write(shard, 0, 50, api.Op{}),
		offer(shard, 8), offer(shard, -1), install(shard, 0, 1, copyOf(1)), install(shard, maxEpoch+1, 1, copyOf(1)), install(shard, 9, 8, copyOf(1)), install(shard, 9, 1, make([]byte, maxCopy+1)),
		plain(api.RecCommit, 64), plain(api.RecCommit, -1), write(64, 0, 50, put("a", "1")), offer(1<<40, 1),
	}
	for kind := 1; kind <= 8; kind++ {
		for _, r := range []api.Record{{Epoch: 1}, {Peer: 1}, {Client: 1}, {Seq: 1}, {Op: put("a", "1")}, {Op: api.Op{Rev: 1}}, {Copy: []byte{1}}} {
			r.Kind, r.Shard = kind, shard
			if !record.Sound(r) {
				all = append(all, r)
			}
		}
	}
	return all
}

// P18.2, P18.9: each kind of record in each phase, and of shards that there aren't: the answer, what is told then, and the disk, write by write.
func TestDoInEachPhase(t *testing.T) {
	taken, refused := 0, map[api.Errno]int{}
	was := mixedPair(t).d.Image()
	for shard := -1; shard <= 7; shard++ {
		for _, r := range append(recordsOfAllKinds(shard), unsound(shard)...) {
			p, err := openPair(t, "in each phase", was, 0, small(3, 6), -1)
			wantErr(t, "in each phase", err, api.OK)
			before := tale(p.e)
			err = p.do(t, "in each phase", r)
			if err == api.OK {
				taken++
				continue
			}
			refused[err]++
			wantText(t, "what is told behind a refusal", tale(p.e), before)
			wantBytes(t, "Image behind a refusal", p.d.Image(), was)
			wantNum(t, "Pending behind a refusal", p.d.Pending(), 0)
		}
	}
	if taken < 15 {
		t.Fatalf("%d records were taken", taken)
	}
	for _, err := range []api.Errno{api.ErrRecForm, api.ErrStateShard, api.ErrLedgerPhase, api.ErrLedgerEpoch, api.ErrLedgerPeer, api.ErrShardOld, api.ErrShardForm} {
		wantBool(t, fmt.Sprint("error ", err, " was met"), refused[err] > 0, true)
	}
}

// P18.2: a record that is not sound is refused ahead of whatever else there is against it.
func TestUnsoundFirst(t *testing.T) {
	for shard := range 6 {
		p := mixedPair(t)
		for _, r := range unsound(shard) {
			wantDoRefused(t, "unsound", p.e, p.d, r, api.ErrRecForm)
		}
		for _, r := range []api.Record{{Kind: 9, Shard: 63}, {Kind: api.RecCommit, Shard: 63, Peer: 1}, {Kind: api.RecOffer, Shard: 63, Peer: 8}, {Kind: api.RecInstall, Shard: 0, Peer: 1, Copy: make([]byte, 5000)}} {
			wantDoRefused(t, "unsound, and more", p.e, p.d, r, api.ErrRecForm)
		}
	}
}

// filledUp is an engine of one server whose log has so many sectors left.
func filledUp(t *testing.T, servers, room int) (*engine.Engine, *disk.Disk, int) {
	t.Helper()
	d := fresh(t, 176)
	e := opened(t, "a new disk", d, 0, small(servers, 3))
	for seq := 1; ; seq++ {
		if 24-e.Used() == room {
			return e, d, seq
		}
		done(t, e, puts(seq))
	}
}

// writeOfForm is a write whose form has just so many bytes.
func writeOfForm(t *testing.T, seq, size int) api.Record {
	t.Helper()
	for n := range 64 * 257 {
		r := write(0, 3, seq, put(text(1+n/257, 1), text(n%257, 1)))
		if got, _ := record.Size(r); got == size {
			return r
		}
	}
	t.Fatalf("no write whose form has %d bytes", size)
	return api.Record{}
}

// P18.2: a write that just has room in the log, and one byte more: then it is refused, a checkpoint comes of it nowhere.
func TestWriteRoom(t *testing.T) {
	for room := range 7 {
		for need := max(room, 1); need <= 6; need++ {
			for _, size := range []int{held*(need-1) + 1, held * need} {
				size = min(max(size, 9), 328)
				e, d, seq := filledUp(t, 2, room)
				r := writeOfForm(t, seq, size)
				what := fmt.Sprintf("%d bytes, %d sectors left", size, room)
				if need := (size + held - 1) / held; need > room {
					wantDoRefused(t, what, e, d, r, api.ErrLogFull)
					continue
				}
				done(t, e, r)
				wantNum(t, what+": Gen", e.Gen(), 1)
				wantNum(t, what+": Used", e.Used(), 24)
			}
		}
	}
}

// P18.2, P18.10: a record that is no write, and has no room, has a checkpoint ahead of it; one that has room has none.
func TestCheckpointFirst(t *testing.T) {
	s := small(2, 3)
	for _, room := range []int{0, 1, 2, 5} {
		for _, c := range []struct {
			name string
			all  []api.Record // the last is asked
			need int
		}{
			{"Offer", []api.Record{offer(0, 1)}, 1},
			{"Cancel", []api.Record{offer(0, 1), plain(api.RecCancel, 0)}, 1},
			{"Commit", []api.Record{offer(0, 1), plain(api.RecCommit, 0)}, 1},
			{"Release", []api.Record{offer(0, 1), plain(api.RecCommit, 0), plain(api.RecRelease, 0)}, 1},
			{"Install, a short one", []api.Record{install(2, 1, 1, copyOf(0))}, 1},
			{"Install of two sectors", []api.Record{install(2, 1, 1, copyOf(8))}, 2},
			{"Install of just an empty log", []api.Record{install(2, 1, 1, copyOfSize(t, held*23-6))}, 23},
			{"Own", []api.Record{install(2, 1, 1, copyOf(0)), plain(api.RecOwn, 2)}, 1},
			{"Forget", []api.Record{install(2, 1, 1, copyOf(0)), plain(api.RecForget, 2)}, 1},
		} {
			what := fmt.Sprintf("%s, %d sectors left", c.name, room)
			image := checkpointImage(t, s, c.all[:len(c.all)-1], room)
			r := c.all[len(c.all)-1]
			wantNum(t, what+": its sectors", len(pieces(formOf(t, r))), c.need)
			p, err := openPair(t, what, image, 0, s, -1)
			wantErr(t, what, err, api.OK)
			wantNum(t, what+": Used ahead of it", p.e.Used(), 24-room)
			wantErr(t, what, p.do(t, what, r), api.OK)
			gen, used := 1, 24-room+c.need
			if c.need > room {
				gen, used = 2, 1+c.need
			}
			wantNum(t, what+": Gen", p.e.Gen(), gen)
			wantNum(t, what+": Used", p.e.Used(), used)
			wantEngine(t, what, p.e, p.d, 0, s, p.m.now, gen, used)
		}
	}
}

// checkpointImage is the image of an engine of generation 1 whose log has so many sectors left, behind writes to shard 0 and then these records.
func checkpointImage(t *testing.T, s api.Setup, all []api.Record, room int) []byte {
	t.Helper()
	var forms [][]byte
	for seq := 1; 1+len(forms)+len(all) < 24-room; seq++ {
		forms = append(forms, formOf(t, puts(seq)))
	}
	return engineImage(s, 1, stateOf(t, 0, s).Bytes(), append(forms, formsOf(t, all...)...)...)
}

// P18.2, P18.10: the longest record that an empty log holds, and one byte more, which no log holds.
func TestNoLogHolds(t *testing.T) {
	for _, log := range []int{24, 25, 60} {
		s := setupOf(2, 3, log, 100)
		for _, more := range []int{-1, 0, 1, 2, 57} {
			for _, first := range []bool{false, true} {
				r := install(2, 1, 1, copyOfSize(t, held*(log-1)-6+more))
				wantNum(t, "the form", len(formOf(t, r)), held*(log-1)+more)
				what := fmt.Sprintf("Log %d, %d bytes above what it holds, a write ahead of it: %v", log, more, first)
				p, err := openPair(t, what, make([]byte, 64*sectorsOf(s)), 0, s, -1)
				wantErr(t, what, err, api.OK)
				gen := 1
				if first {
					wantErr(t, what, p.do(t, what, puts(1)), api.OK)
					gen = 2
				}
				if more > 0 {
					wantDoRefused(t, what, p.e, p.d, r, api.ErrLogFull)
					continue
				}
				wantErr(t, what, p.do(t, what, r), api.OK)
				wantNum(t, what+": Gen", p.e.Gen(), gen)
				wantNum(t, what+": Used", p.e.Used(), log)
			}
		}
	}
}

// P18.2: the greatest log, and the longest record that it holds; the longest Copy of all is one that no log holds.
func TestGreatestLog(t *testing.T) {
	s := setupOf(2, 3, 4096, 16384)
	d := fresh(t, sectorsOf(s))
	e := opened(t, "the greatest", d, 0, s)
	wantDoRefused(t, "one byte above", e, d, install(2, 1, 1, copyOfSize(t, held*4095-7+1)), api.ErrLogFull)
	wantDoRefused(t, "the longest", e, d, install(2, 1, 1, copyOfSize(t, maxCopy)), api.ErrLogFull)
	done(t, e, puts(1))
	r := install(2, 1, 1, copyOfSize(t, held*4095-7))
	wantNum(t, "the form", len(formOf(t, r)), held*4095)
	done(t, e, r)
	wantEngine(t, "the greatest", e, d, 0, s, stateOf(t, 0, s, puts(1), r), 2, 4096)
}

// P18.2, P18.10: a write behind which the state has just Most bytes, and one byte more.
func TestDiskFullByWrite(t *testing.T) {
	for _, slotSize := range []int{64, 65, 70} {
		s := setupOf(1, 1, 24, slotSize)
		now, seq := sized(t, s, mostOf(s)-150)
		image := engineImage(s, 1, now.Bytes())
		for _, more := range []int{-1, 0, 1, 2, 20} {
			what := fmt.Sprintf("Shot %d, %d bytes above Most", slotSize, more)
			r := writeOfSize(t, now, seq, mostOf(s)+more)
			p, err := openPair(t, what, image, 0, s, -1)
			wantErr(t, what, err, api.OK)
			if more > 0 {
				wantDoRefused(t, what, p.e, p.d, r, api.ErrDiskFull)
				wantErr(t, what, p.do(t, what, r), api.ErrDiskFull)
				continue
			}
			wantErr(t, what, p.do(t, what, r), api.OK)
			wantNum(t, what+": Bytes", len(p.e.Bytes()), mostOf(s)+more)
			wantErr(t, what, p.e.Tidy(), api.OK)
		}
	}
}

// P18.2, P18.10: an Install likewise; and other records, which do not make the state longer, go well at just Most, with a checkpoint of a full slot.
func TestDiskFullByInstall(t *testing.T) {
	s := setupOf(2, 1, 90, 64)
	base := len(stateOf(t, 1, s).Bytes())
	for _, more := range []int{-1, 0, 1, 2, 100} {
		what := fmt.Sprintf("%d bytes above Most", more)
		p, err := openPair(t, what, make([]byte, 64*sectorsOf(s)), 1, s, -1)
		wantErr(t, what, err, api.OK)
		r := install(0, 1, 0, copyOfSize(t, 4032-base-2+more))
		if more > 0 {
			wantDoRefused(t, what, p.e, p.d, r, api.ErrDiskFull)
			continue
		}
		wantErr(t, what, p.do(t, what, r), api.OK)
		wantNum(t, what+": Bytes", len(p.e.Bytes()), 4032+more)
		wantErr(t, what, p.do(t, what, plain(api.RecOwn, 0)), api.OK)
		wantErr(t, what, p.tidy(t, what), api.OK)
		wantNum(t, what+": Gen", p.e.Gen(), 2)
		wantErr(t, what, p.do(t, what, offer(0, 0)), api.OK)
		wantErr(t, what, p.do(t, what, plain(api.RecCancel, 0)), api.OK)
	}
}

// P18.2: an Install in the place of an earlier copy may be as long as the room without that one.
func TestDiskFullInPlace(t *testing.T) {
	s := setupOf(2, 1, 90, 64)
	base := len(stateOf(t, 1, s).Bytes())
	p, err := openPair(t, "in place", make([]byte, 64*sectorsOf(s)), 1, s, -1)
	wantErr(t, "in place", err, api.OK)
	r := install(0, 1, 0, copyOfSize(t, 4032-base-2))
	for epoch := 1; epoch < 5; epoch++ {
		r.Epoch = epoch
		wantErr(t, "in place", p.do(t, "in place", r), api.OK)
	}
}

// P18.2: where both a slot and the log have no room, the slot is told; what the state refuses comes ahead of both.
func TestWhichErrorFirst(t *testing.T) {
	s := small(2, 3)
	e, d, seq := filledUp(t, 2, 0)
	long := copyOfSize(t, 4100)
	wantDoRefused(t, "no room at all", e, d, install(2, 1, 1, long), api.ErrDiskFull)
	wantDoRefused(t, "no room in the log", e, d, install(2, 1, 1, copyOfSize(t, held*23+1)), api.ErrLogFull)
	wantDoRefused(t, "an epoch that may not be", e, d, install(2, maxEpoch, 1, long), api.ErrLedgerEpoch)
	wantDoRefused(t, "no such server", e, d, install(2, 1, 2, long), api.ErrLedgerPeer)
	wantDoRefused(t, "no such shard", e, d, install(3, 1, 1, long), api.ErrStateShard)
	wantDoRefused(t, "no copy", e, d, install(2, 1, 1, long[:4099]), api.ErrShardForm)
	wantDoRefused(t, "not Absent", e, d, install(0, 1, 1, long), api.ErrLedgerPhase)
	wantDoRefused(t, "a write", e, d, puts(seq), api.ErrLogFull)
	wantDoRefused(t, "an old write", e, d, puts(seq-1), api.ErrShardOld)
	wantDoRefused(t, "an older write", e, d, puts(1), api.ErrShardOld)
	wantDoRefused(t, "a write to none", e, d, write(2, 3, 1, put("a", "1")), api.ErrLedgerPhase)
	wantDoRefused(t, "no write", e, d, write(0, 3, seq, get("a")), api.ErrRecForm)

	now, next := sized(t, small(1, 1), 4000)
	forms := [][]byte{}
	for i := range 23 {
		forms = append(forms, formOf(t, write(0, 3, next+i, del("x"))))
	}
	p, err := openPair(t, "both", engineImage(small(1, 1), 1, now.Bytes(), forms...), 0, small(1, 1), -1)
	wantErr(t, "both", err, api.OK)
	wantDoRefused(t, "a write, no room at all", p.e, p.d, write(0, 3, next+23, put("y", text(100, 1))), api.ErrDiskFull)
	wantDoRefused(t, "a write, no room in the log", p.e, p.d, write(0, 3, next+23, del("x")), api.ErrLogFull)
	wantDoRefused(t, "an old write, no room at all", p.e, p.d, write(0, 3, next, put("y", text(100, 1))), api.ErrShardOld)
	wantEngine(t, "the first", e, d, 0, s, stateOf(t, 0, s, writesUpTo(seq-1)...), 1, 24)
}

func writesUpTo(last int) []api.Record {
	var all []api.Record
	for seq := 1; seq <= last; seq++ {
		all = append(all, puts(seq))
	}
	return all
}

// P18.2: at the greatest revision a write is refused as the copy refuses it.
func TestRevisionsEnd(t *testing.T) {
	s := small(2, 1)
	last := []byte{7, 0x80, 0x80, 0x80, 0x80, 0x80, 0x20, 0, 0} // a table at MaxRev without rows, no seats
	p, err := openPair(t, "MaxRev", make([]byte, 64*176), 1, s, -1)
	wantErr(t, "MaxRev", err, api.OK)
	wantErr(t, "Install", p.do(t, "MaxRev", install(0, 1, 0, last)), api.OK)
	wantErr(t, "Own", p.do(t, "MaxRev", plain(api.RecOwn, 0)), api.OK)
	wantErr(t, "a write", p.do(t, "MaxRev", puts(1)), api.ErrTabEnd)
}

// P18.2, P18.4, P18.10: at the greatest generation there is no checkpoint: a record that has no room is refused, Tidy does nothing.
func TestLastGeneration(t *testing.T) {
	s := small(2, 3)
	var all []api.Record
	for i := range 11 {
		all = append(all, puts(2*i+1), puts(2*i+2))
	}
	all = append(all, offer(0, 1)) // 23 of them
	for _, gen := range []int{maxTime - 2, maxTime - 1, maxTime} {
		what := fmt.Sprint("generation ", gen)
		p, err := openPair(t, what, engineImage(s, gen, stateOf(t, 0, s).Bytes(), formsOf(t, all...)...), 0, s, -1)
		wantErr(t, what, err, api.OK)
		wantNum(t, what+": Used", p.e.Used(), 24)
		if gen == maxTime {
			for _, r := range []api.Record{plain(api.RecCancel, 0), plain(api.RecCommit, 0), install(2, 1, 1, copyOf(1)), install(2, 1, 1, copyOfSize(t, 2000))} {
				wantDoRefused(t, what, p.e, p.d, r, api.ErrLogFull)
			}
			wantUntouched(t, what, p.d, func() { wantErr(t, what, p.e.Tidy(), api.OK) })
			wantDoRefused(t, what, p.e, p.d, puts(99), api.ErrLedgerPhase)
			continue
		}
		wantErr(t, what, p.do(t, what, plain(api.RecCommit, 0)), api.OK)
		wantNum(t, what+": Gen", p.e.Gen(), gen+1)
		wantNum(t, what+": Used", p.e.Used(), 2)
		wantEngine(t, what, p.e, p.d, 0, s, p.m.now, gen+1, 2)
	}
}

// P18.2: at the greatest generation what has room goes on.
func TestLastGenerationGoesOn(t *testing.T) {
	s := small(2, 3)
	p, err := openPair(t, "the last", engineImage(s, maxTime-1, stateOf(t, 0, s).Bytes(), formsOf(t, writesUpTo(12)...)...), 0, s, -1)
	wantErr(t, "the last", err, api.OK)
	wantErr(t, "Tidy", p.tidy(t, "the last"), api.OK)
	wantNum(t, "Gen", p.e.Gen(), maxTime)
	for seq := 13; seq < 13+23; seq++ {
		wantErr(t, "Tidy", p.tidy(t, "the last"), api.OK)
		wantErr(t, "a write", p.do(t, "the last", puts(seq)), api.OK)
	}
	wantNum(t, "Used", p.e.Used(), 24)
	wantErr(t, "Tidy", p.tidy(t, "the last"), api.OK)
	wantNum(t, "Used", p.e.Used(), 24)
	wantErr(t, "Offer", p.do(t, "the last", offer(0, 1)), api.ErrLogFull)
	wantEngine(t, "the last", p.e, p.d, 0, s, p.m.now, maxTime, 24)
}

// P18.8: Do answers what Apply does, and Bytes is that state's, in runs without a checkpoint, with one by a record, and with one by Tidy between all records.
func TestDoAsApply(t *testing.T) {
	for _, tidy := range []bool{false, true} {
		for _, log := range []int{24, 40, 4096} {
			s := setupOf(3, 6, log, 64)
			d := fresh(t, sectorsOf(s))
			e := opened(t, "a new disk", d, 0, s)
			now, err := state.New(0, 3, 6)
			wantErr(t, "New", err, api.OK)
			all := mixed()
			for i := range 60 {
				all = append(all, write(0, i%16, 10+i, put(text(1+i%9, 1), text(i%20, i))), offer(0, 1+i%2), plain(api.RecCancel, 0), install(3, 1+i, 1+i%2, copyOf(i)))
			}
			for i, r := range all {
				what := fmt.Sprintf("Log %d, tidy %v, record %d", log, tidy, i)
				wanted, err := now.Apply(r)
				wantErr(t, what, err, api.OK)
				if tidy || log == 24 && r.Kind == api.RecWrite {
					wantErr(t, what, e.Tidy(), api.OK)
				}
				a, err := e.Do(r)
				if log == 40 && err == api.ErrLogFull {
					wantErr(t, what, e.Tidy(), api.OK)
					a, err = e.Do(r)
				}
				wantErr(t, what, err, api.OK)
				wantAnswer(t, what, a, wanted)
				wantBytes(t, what, e.Bytes(), now.Bytes())
			}
			wantBool(t, "there were checkpoints", e.Gen() > 1, log < 4096)
			wantEngine(t, "at the end", e, d, 0, s, now, e.Gen(), e.Used())
		}
	}
}
