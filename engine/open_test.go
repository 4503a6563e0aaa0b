package engine_test

import (
	"fmt"
	"slices"
	"testing"

	"haulage/api"
	"haulage/disk"
	"haulage/engine"
	"haulage/state"
)

// P18.1: a nil disk, whatever else is handed in.
func TestOpenNil(t *testing.T) {
	for _, s := range []api.Setup{small(1, 1), {}, small(9, 65), setupOf(1, 1, 1, 1)} {
		for _, server := range []int{0, -1, 8} {
			e, err := engine.Open(nil, server, s)
			wantErr(t, "Open without a disk", err, api.ErrNil)
			wantBool(t, "an engine", e != nil, false)
		}
	}
}

// P18.1: server, servers and shards at their bounds, and beyond; each with the power on and off, for ErrArg comes first.
func TestOpenNumbers(t *testing.T) {
	near := append(farNumbers(), -2, -1, 0, 1, 2, 7, 8, 9, 10)
	for _, servers := range near {
		for _, server := range near {
			wantBounds(t, server, small(servers, 1), servers >= 1 && servers <= 8 && server >= 0 && server < servers)
		}
	}
	for _, shards := range append(near, 63, 64, 65) {
		wantBounds(t, 0, small(1, shards), shards >= 1 && shards <= 64)
		wantBounds(t, 7, small(8, shards), shards >= 1 && shards <= 64)
	}
}

// wantBounds asks whether numbers are let through, over a new disk of the least size, and that those that aren't leave it alone.
func wantBounds(t *testing.T, server int, s api.Setup, right bool) {
	t.Helper()
	what := fmt.Sprintf("server %d, setup %v", server, s)
	d := fresh(t, 176)
	if !right {
		wantOpenRefused(t, what, d, server, s, api.ErrArg)
		d.Fuse(0)
		wantOpenRefused(t, what+", no power", d, server, s, api.ErrArg)
		return
	}
	d.Fuse(0)
	wantOpenRefused(t, what+", no power", d, server, s, api.ErrDiskPower)
	d.Fuse(-1)
	e := opened(t, what, d, server, s)
	now := stateOf(t, server, s)
	wantEngine(t, what, e, d, server, s, now, 1, 1)
	wantNum(t, what+": Server", e.Server(), server)
	wantNum(t, what+": Servers", e.Servers(), s.Servers)
	wantNum(t, what+": Shards", e.Shards(), s.Shards)
}

// P18.1: Log, Shot and the disk's sectors at their bounds, and one off.
func TestOpenLayouts(t *testing.T) {
	for _, c := range []struct {
		log, shot int
		right     bool
	}{
		{24, 64, true}, {23, 64, false}, {24, 63, false}, {25, 64, true}, {24, 65, true}, {31, 77, true},
		{4096, 64, true}, {4097, 64, false}, {24, 16384, true}, {24, 16385, false}, {4096, 16384, true}, {4097, 16385, false},
		{0, 64, false}, {24, 0, false}, {1, 1, false}, {-24, 64, false}, {24, -64, false}, {0, 0, false},
	} {
		s := setupOf(2, 3, c.log, c.shot)
		if !c.right {
			for _, sectors := range []int{1, 176, 65536} {
				wantOpenRefused(t, fmt.Sprint(s, " on ", sectors), fresh(t, sectors), 1, s, api.ErrArg)
			}
			continue
		}
		n := sectorsOf(s)
		for _, sectors := range []int{n - 1, n - 2, n / 2, 1} {
			wantOpenRefused(t, fmt.Sprint(s, " on ", sectors), fresh(t, sectors), 1, s, api.ErrArg)
		}
		for _, sectors := range []int{n, n + 1, 65536} {
			what := fmt.Sprint(s, " on ", sectors)
			d := fresh(t, sectors)
			e := opened(t, what, d, 1, s)
			wantText(t, what, tale(e), stateTale(stateOf(t, 1, s), 1, 1))
			wanted := append(engineImage(s, 1, stateOf(t, 1, s).Bytes()), make([]byte, 64*(sectors-n))...)
			wantBytes(t, what+": Image", d.Image(), wanted)
			wantNum(t, what+": Pending", d.Pending(), 0)
		}
	}
}

// P18.1: layouts of far numbers, whose sums would go round.
func TestOpenFarLayouts(t *testing.T) {
	d := fresh(t, 65536)
	for _, far := range farNumbers() {
		for _, s := range []api.Setup{setupOf(1, 1, far, 64), setupOf(1, 1, 24, far), setupOf(1, 1, far, far), setupOf(1, 1, far, -far)} {
			wantOpenRefused(t, fmt.Sprint(s), d, 0, s, api.ErrArg)
		}
	}
}

// P18.1: of a setup nothing else counts.
func TestOpenOtherFields(t *testing.T) {
	for _, clients := range append(farNumbers(), 0, 1, 16) {
		s := small(2, 2)
		s.Clients, s.Seed = clients, uint64(clients)
		d := fresh(t, 176)
		e := opened(t, "other fields", d, 0, s)
		wantEngine(t, "other fields", e, d, 0, small(2, 2), stateOf(t, 0, s), 1, 1)
	}
}

// P18.1: a new disk: what is written, sync by sync, whatever stood there; nothing is read of it but slots in which a snapshot stands.
func TestOpenNew(t *testing.T) {
	s := small(3, 4)
	first := stateOf(t, 2, s).Bytes()
	junk := slices.Concat(region(24, 9, []byte("x")), region(24, 8, []byte("y")), slot(64, 1, first), slot(64, 2, first))
	junk[48][0], junk[112][5] = 0, 9 // so that neither stands
	for what, image := range map[string][]byte{
		"zeros": make([]byte, 64*176),
		"ones":  slices.Repeat([]byte{1}, 64*180),
		"junk":  imageOf(junk),
		"a log": imageOf(region(24, 1, []byte("x")), region(24, 2), empty(128)),
	} {
		p, err := openPair(t, what, image, 2, s, -1)
		wantErr(t, what, err, api.OK)
		wantEngine(t, what, p.e, p.d, 2, s, stateOf(t, 2, s), 1, 1)
		wantNum(t, what+": Pending", p.d.Pending(), 0)
		for fuse := 0; ; fuse++ {
			what := fmt.Sprintf("%s, fuse %d", what, fuse)
			if _, err := openPair(t, what, image, 2, s, fuse); err == api.OK {
				break
			}
		}
	}
}

// P18.1: a head that says more bytes than a slot takes is none: the engine begins anew.
func TestOpenLongerThanMost(t *testing.T) {
	s := small(1, 1)
	now, _ := sized(t, setupOf(1, 1, 24, 66), 4033)
	data := now.Bytes()
	wantNum(t, "the data", len(data), 4033)
	rows := append([][]byte{shotHead(1, 4033, sumOf(data))}, shotBody(data)...)
	image := imageOf(region(24, 1), empty(24), filled(rows, 128))
	p, err := openPair(t, "one byte too long", image, 0, s, -1)
	wantErr(t, "one byte too long", err, api.OK)
	wantEngine(t, "one byte too long", p.e, p.d, 0, s, stateOf(t, 0, s), 1, 1)

	now, _ = sized(t, s, 4032)
	p, err = openPair(t, "just Most", engineImage(s, 1, now.Bytes()), 0, s, -1)
	wantErr(t, "just Most", err, api.OK)
	wantEngine(t, "just Most", p.e, p.d, 0, s, now, 1, 1)
}

// P18.1: an engine's own disk: each generation's log in its region, the newest snapshot of the two.
func TestOpenOwn(t *testing.T) {
	s := small(2, 3)
	all := []api.Record{puts(1), write(1, 3, 1, put("b", text(200, 1))), offer(0, 1), plain(api.RecCommit, 0), install(2, 5, 1, copyOf(30)), plain(api.RecOwn, 2), write(2, 9, 40, del("k1"))}
	for _, gen := range []int{1, 2, 3, 4, 77, 1000, maxTime - 1, maxTime} {
		for cut := range len(all) + 1 {
			what := fmt.Sprintf("generation %d, %d records in the log", gen, len(all)-cut)
			saved, now := stateOf(t, 0, s, all[:cut]...), stateOf(t, 0, s, all...)
			forms := formsOf(t, all[cut:]...)
			used := len(slices.Concat([][]byte{nil}, slices.Concat(pieceRows(forms)...)))
			p, err := openPair(t, what, engineImage(s, gen, saved.Bytes(), forms...), 0, s, -1)
			wantErr(t, what, err, api.OK)
			wantEngine(t, what, p.e, p.d, 0, s, now, gen, used)
		}
	}
}

// pieceRows are the sectors of each record.
func pieceRows(forms [][]byte) [][][]byte {
	var all [][][]byte
	for _, p := range forms {
		all = append(all, pieces(p))
	}
	return all
}

// P18.1: of two snapshots the newest counts, and its log alone; the other two are let be.
func TestOpenNewest(t *testing.T) {
	s := small(1, 1)
	old, now := stateOf(t, 0, s, puts(1), puts(2)), stateOf(t, 0, s, puts(1), puts(2), puts(3), puts(4))
	for _, c := range []struct{ odd, even int }{{1, 2}, {3, 2}, {7, 2}, {3, 8}, {maxTime - 1, maxTime}, {maxTime - 1, maxTime - 2}} {
		what := fmt.Sprintf("generations %d and %d", c.odd, c.even)
		log := formsOf(t, puts(5), puts(6))
		oddLog, evenLog := region(24, c.odd, log...), region(24, c.even, formsOf(t, puts(9))...)
		odd, even := now.Bytes(), old.Bytes()
		if c.even > c.odd {
			odd, even = even, odd
			oddLog, evenLog = region(24, c.odd, formsOf(t, puts(9))...), region(24, c.even, log...)
		}
		image := imageOf(oddLog, evenLog, slot(64, c.odd, odd), slot(64, c.even, even))
		p, err := openPair(t, what, image, 0, s, -1)
		wantErr(t, what, err, api.OK)
		wantEngine(t, what, p.e, p.d, 0, s, stateOf(t, 0, s, puts(1), puts(2), puts(3), puts(4), puts(5), puts(6)), max(c.odd, c.even), 3)
		wantBytes(t, what+": Image", p.d.Image(), image)
	}
}

// P18.1: the newest snapshot counts, also if it is none of this engine's and the older one is.
func TestOpenNewestIsNone(t *testing.T) {
	s := small(2, 2)
	good, other := stateOf(t, 0, s).Bytes(), stateOf(t, 1, s).Bytes()
	image := imageOf(region(24, 3), region(24, 2), slot(64, 3, other), slot(64, 2, good))
	wantOpenRefused(t, "another's is newer", loaded(t, image), 0, s, api.ErrEngDisk)
	image = imageOf(region(24, 1), region(24, 2), slot(64, 1, other), slot(64, 2, good))
	opened(t, "another's is older", loaded(t, image), 0, s)
}

// P18.1: a disk of another server, of other servers, of other shards.
func TestOpenAnothers(t *testing.T) {
	s := small(3, 4)
	d := fresh(t, 200)
	e := opened(t, "the first", d, 1, s)
	allDone(t, e, install(0, 1, 0, copyOf(3)), install(1, 1, 0, copyOf(4)))
	wantErr(t, "Tidy", e.Tidy(), api.OK)
	for server := range 8 {
		for servers := server + 1; servers <= 8; servers++ {
			for _, shards := range []int{1, 2, 3, 4, 5, 6, 63, 64} {
				what := fmt.Sprintf("server %d of %d, %d shards", server, servers, shards)
				if server != 1 || servers != 3 || shards != 4 {
					wantOpenRefused(t, what, d, server, small(servers, shards), api.ErrEngDisk)
				}
			}
		}
	}
	again := opened(t, "the first again", d, 1, s)
	wantText(t, "the first again", tale(again), tale(e))
}

// P18.1: a disk of another layout: what stands there then is told by that layout alone.
func TestOpenOtherLayouts(t *testing.T) {
	d := fresh(t, 400)
	e := opened(t, "the first", d, 0, small(1, 1))
	allDone(t, e, puts(1), puts(2))
	image := d.Image()
	for _, l := range []api.Layout{{Log: 25, Shot: 64}, {Log: 24, Shot: 65}, {Log: 56, Shot: 64}, {Log: 40, Shot: 64}, {Log: 24, Shot: 100}, {Log: 88, Shot: 64}} {
		s := api.Setup{Servers: 1, Shards: 1, Layout: l}
		what := fmt.Sprint("layout ", l)
		_, err := openPair(t, what, image, 0, s, -1)
		if l.Log == 24 {
			wantErr(t, what+": the first slot begins alike", err, api.OK)
		}
	}
	// the greater layout's first slot begins where the second slot of the smaller one does, and stands there with another parity
	s := setupOf(1, 1, 56, 64)
	image = append(imageOf(region(24, 2), region(24, 2), slot(64, 1, nil), slot(64, 2, stateOf(t, 0, s).Bytes())), make([]byte, 64*200)...)
	p, err := openPair(t, "another parity", image, 0, s, -1)
	wantErr(t, "another parity", err, api.OK)
	wantNum(t, "another parity: it began anew", p.e.Gen(), 1)
}

// wrongData are what is no form of a state, and forms that are not of server 0 out of 2 with 2 shards.
func wrongData(t *testing.T) map[string][]byte {
	t.Helper()
	form := stateOf(t, 0, small(2, 2), puts(1)).Bytes()
	with := func(at int, b byte) []byte {
		p := slices.Clone(form)
		p[at] = b
		return p
	}
	return map[string][]byte{
		"nothing": nil, "a zero": {0}, "a byte": {7}, "text": []byte(text(100, 1)), "much text": []byte(text(4032, 1)), "zeros": make([]byte, 4032),
		"cut off": form[:len(form)-1], "a byte more": append(slices.Clone(form), 0), "another one behind it": append(slices.Clone(form), form...),
		"server 1": with(0, 1), "server 2": with(0, 2), "3 servers": with(1, 3), "1 server": with(1, 1), "no servers": with(1, 0), "1 shard": with(2, 1), "3 shards": with(2, 3),
		"a phase that there isn't": with(3, 6), "unsound": with(3, 2), "a peer that there isn't": with(8, 2),
		"right, of server 1":        stateOf(t, 1, small(2, 2)).Bytes(),
		"right, of another setup":   stateOf(t, 0, small(3, 2)).Bytes(),
		"right, of one server":      stateOf(t, 0, small(1, 2)).Bytes(),
		"right, of other shards":    stateOf(t, 0, small(2, 1)).Bytes(),
		"right, of many shards":     stateOf(t, 0, small(2, 64)).Bytes(),
		"a record":                  formOf(t, puts(1)),
		"right, ahead of its zeros": append(slices.Clone(form), make([]byte, 64)...),
	}
}

// P18.1: a snapshot whose data is none of this engine's states; the log is not even opened then, so that nothing is wiped.
func TestOpenWrongData(t *testing.T) {
	s := small(2, 2)
	for name, data := range wrongData(t) {
		for _, gen := range []int{1, 2, maxTime - 1, maxTime} {
			what := fmt.Sprintf("%s, generation %d", name, gen)
			image := engineImage(s, gen, data, formOf(t, puts(5)))
			image[64*(24*(1-gen%2)+9)] = 5 // an open log would be wiped there
			wantOpenRefused(t, what, loaded(t, image), 0, s, api.ErrEngDisk)
			_, err := openPair(t, what, image, 0, s, -1)
			wantErr(t, what, err, api.ErrEngDisk)
			for _, bare := range [][]byte{imageOf(empty(48), slot(64, 1, data), empty(64)), imageOf(slices.Repeat([][]byte{full(1)}, 48), empty(64), slot(64, 2, data))} {
				wantOpenRefused(t, what+", no log", loaded(t, bare), 0, s, api.ErrEngDisk)
			}
		}
	}
}

// wrongForms are records that no engine of server 0 out of 2 with 3 shards, whose first shard has done seq 1, has journaled next: none is a form, or it is not sound, or not taken.
func wrongForms(t *testing.T) map[string][]byte {
	t.Helper()
	good := formOf(t, puts(2))
	return map[string][]byte{
		"nothing": nil, "a zero": {0}, "kind 9": {9, 0}, "text": []byte(text(300, 1)),
		"cut off": good[:len(good)-1], "a byte more": append(slices.Clone(good), 0), "two forms": append(slices.Clone(good), formOf(t, puts(3))...),
		"a long number":      {6, 129, 0},
		"peer 8":             {2, 0, 8},
		"shard 64":           {6, 64},
		"seq 0":              {1, 0, 3, 0, 3, 1, 97},
		"a read":             {1, 0, 3, 2, 1, 1, 97},
		"no such shard":      formOf(t, write(3, 3, 2, put("a", "1"))),
		"not offered":        formOf(t, plain(api.RecCommit, 0)),
		"not installed":      formOf(t, plain(api.RecOwn, 0)),
		"no such server":     formOf(t, offer(0, 2)),
		"to itself":          formOf(t, offer(0, 0)),
		"done already":       formOf(t, puts(1)),
		"an epoch too great": formOf(t, install(2, maxEpoch, 1, copyOf(1))),
		"no copy":            formOf(t, install(2, 3, 1, []byte{9})),
		"a copy of none":     formOf(t, install(2, 3, 1, nil)),
		"not absent":         formOf(t, install(0, 3, 1, copyOf(1))),
	}
}

// P18.1: a record in the log that is no form, or not sound, or not taken, as the first, in the midst, as the last: what stood behind the log is wiped, and that is all.
func TestOpenWrongRecords(t *testing.T) {
	s := small(2, 3)
	saved := stateOf(t, 0, s, puts(1)).Bytes()
	right := formsOf(t, write(0, 5, 1, put("c", "1")), write(0, 5, 2, put("d", text(100, 1))), write(0, 6, 2, del("d")))
	_, err := openPair(t, "all are right", engineImage(s, 1, saved, right...), 0, s, -1)
	wantErr(t, "all are right", err, api.OK)
	for name, wrong := range wrongForms(t) {
		for at := range 4 {
			for _, gen := range []int{1, 2} {
				what := fmt.Sprintf("%s, record %d, generation %d", name, at, gen)
				image := engineImage(s, gen, saved, slices.Insert(slices.Clone(right), at, wrong)...)
				wantOpenRefused(t, what, loaded(t, image), 0, s, api.ErrEngDisk)
				unclean := slices.Clone(image)
				unclean[64*(24*(2-gen%2)-1)+5] = 7 // the last sector of its region
				d := loaded(t, unclean)
				wantNotOpened(t, what, d, 0, s, api.ErrEngDisk)
				wantBytes(t, what+": the last sector is wiped", d.Image(), image)
			}
		}
	}
}

// P18.1: each record of the log must be taken by the state that those ahead of it make: one that is missing, or two that stand the wrong way round.
func TestOpenRecordsInOrder(t *testing.T) {
	s := small(2, 2)
	all := []api.Record{offer(0, 1), plain(api.RecCancel, 0), offer(0, 1), plain(api.RecCommit, 0), plain(api.RecRelease, 0)}
	for i := range all {
		_, err := openPair(t, "one less", engineImage(s, 1, stateOf(t, 0, s).Bytes(), formsOf(t, without(all, i)...)...), 0, s, -1)
		wanted := api.ErrEngDisk
		if i == 4 {
			wanted = api.OK // there is nothing behind it
		}
		wantErr(t, fmt.Sprint("without ", i), err, wanted)
	}
	for i := 1; i < len(all); i++ {
		turned := slices.Clone(all)
		turned[i-1], turned[i] = turned[i], turned[i-1]
		_, err := openPair(t, "turned", engineImage(s, 1, stateOf(t, 0, s).Bytes(), formsOf(t, turned...)...), 0, s, -1)
		wantErr(t, fmt.Sprint("turned at ", i), err, api.ErrEngDisk)
	}
}

// P18.1: records that make the state longer than Most, also if a later one makes it shorter again; just Most goes well.
func TestOpenRecordsTooLong(t *testing.T) {
	s := small(1, 1)
	now, seq := sized(t, s, 3900)
	just := writeOfSize(t, now, seq, 4032)
	above := writeOfSize(t, now, seq, 4033)
	p, err := openPair(t, "just Most", engineImage(s, 1, now.Bytes(), formOf(t, just)), 0, s, -1)
	wantErr(t, "just Most", err, api.OK)
	wantNum(t, "just Most", len(p.e.Bytes()), 4032)
	back := write(0, 3, seq+1, del(string(above.Op.Key)))
	for what, all := range map[string][]api.Record{"the last": {above}, "not the last": {above, back}} {
		_, err := openPair(t, what, engineImage(s, 1, now.Bytes(), formsOf(t, all...)...), 0, s, -1)
		wantErr(t, what, err, api.ErrEngDisk)
	}
	wide := setupOf(1, 1, 24, 65)
	_, err = openPair(t, "a greater slot", engineImage(wide, 1, now.Bytes(), formsOf(t, above, back)...), 0, wide, -1)
	wantErr(t, "a greater slot", err, api.OK)
}

// P18.1: an Install in the log that makes the state longer than Most.
func TestOpenInstallTooLong(t *testing.T) {
	s := setupOf(2, 1, 100, 64)
	base := len(stateOf(t, 1, s).Bytes())
	for _, more := range []int{0, 1} {
		copied := copyOfSize(t, 4032-base-2+more)
		_, err := openPair(t, "Install", engineImage(s, 1, stateOf(t, 1, s).Bytes(), formOf(t, install(0, 1, 0, copied))), 1, s, -1)
		wanted := []api.Errno{api.OK, api.ErrEngDisk}[more]
		wantErr(t, fmt.Sprint("Install, ", more, " bytes above"), err, wanted)
	}
}

// wrongLogs are regions of 24 sectors in which no log of this generation stands.
func wrongLogs(gen int) map[string][][]byte {
	with := func(sector, at int, b byte) [][]byte {
		rows := region(24, gen, []byte{6, 0}, []byte(text(100, 1)))
		rows[sector] = slices.Clone(rows[sector])
		rows[sector][at] = b
		return rows
	}
	return map[string][][]byte{
		"zeros": empty(24), "ones": slices.Repeat([][]byte{full(1)}, 24), "no head": append(empty(1), region(23, gen)...),
		"the head's kind": with(0, 0, 3), "its length": with(0, 1, 7), "its generation": with(0, 9, byte(gen)+1), "its end": with(0, 63, 0), "its sum": with(0, 60, 1),
		"a record's kind": with(1, 0, 1), "its bytes": with(1, 2, 9), "its sum too": with(1, 61, 9), "a piece": with(2, 30, 0),
		"generation 0": region(24, 0), "one too great": region(24, maxTime+1), "one below": region(24, gen-1), "one above": region(24, gen+1), "two above": region(24, gen+2), "twice": region(24, 2*gen),
		"two heads": append([][]byte{logHead(gen), logHead(gen)}, empty(22)...), "an empty last piece": append([][]byte{logHead(gen), logSector(2, []byte(text(57, 1))), logSector(3, nil)}, empty(21)...),
	}
}

// P18.1: a log that is none, or of another generation, or that stands in the other region; nothing is written, for none has something to wipe.
func TestOpenWrongLogs(t *testing.T) {
	s := small(1, 1)
	data := stateOf(t, 0, s).Bytes()
	for _, gen := range []int{1, 2, 3, 1000, maxTime - 1, maxTime} {
		for name, rows := range wrongLogs(gen) {
			what := fmt.Sprintf("%s, generation %d", name, gen)
			good := region(24, gen)
			parts := [][][]byte{rows, good, slot(64, gen, data), empty(64)}
			if gen%2 == 0 {
				parts = [][][]byte{good, rows, empty(64), slot(64, gen, data)}
			}
			wantOpenRefused(t, what, loaded(t, imageOf(parts...)), 0, s, api.ErrEngDisk)
			_, err := openPair(t, what, imageOf(parts...), 0, s, -1)
			wantErr(t, what, err, api.ErrEngDisk)
		}
	}
}

// P18.1: a log of another generation that is unclean is wiped, and refused.
func TestOpenWrongGenerationUnclean(t *testing.T) {
	s := small(1, 1)
	rows := region(24, 3)
	rows[20] = full(0x77)
	d := loaded(t, imageOf(rows, empty(24), slot(64, 1, stateOf(t, 0, s).Bytes()), empty(64)))
	wantNotOpened(t, "unclean", d, 0, s, api.ErrEngDisk)
	wantBytes(t, "unclean: it is wiped", d.Image(), imageOf(region(24, 3), empty(24), slot(64, 1, stateOf(t, 0, s).Bytes()), empty(64)))
}

// P18.1: what stands behind the last record is wiped and synced ahead of the first call; a record without its last piece is none.
func TestOpenWipes(t *testing.T) {
	s := small(1, 2)
	saved := stateOf(t, 0, s, puts(1))
	clean := engineImage(s, 2, saved.Bytes(), formsOf(t, puts(2), puts(3))...)
	long := pieces(formOf(t, write(1, 3, 4, put("a", text(200, 1)))))
	for name, spots := range map[string]map[int][]byte{
		"a torn record":              {27: full(0)[:30], 28: full(7)},
		"pieces without a last one":  {27: long[0], 28: long[1]},
		"a last piece that is torn":  {27: long[0], 28: long[1], 29: append(slices.Clone(long[3][:40]), make([]byte, 24)...)},
		"the region's last sector":   {47: full(9)},
		"a whole one behind a gap":   {28: long[3]},
		"a head behind a gap":        {30: logHead(3)},
		"all of it":                  {28: full(1), 29: full(2), 30: full(3), 40: full(4), 47: full(5)},
		"nothing":                    {},
		"the other region, let be":   {0: full(1), 23: full(2)},
		"behind the slots, let be":   {176: full(3)},
		"the older slot, let be":     {48: full(4), 60: full(5)},
		"behind the data, let be":    {150: full(6)},
		"a first byte 0, end mark":   {27: append(append([]byte{0}, full(8)[:62]...), 165)},
		"a first byte, no end mark":  {27: append([]byte{3}, make([]byte, 63)...)},
		"one piece that goes on":     {27: long[0]},
		"pieces up to the very end":  pieceSpots(27, 48, long[0]),
		"a torn one up to the end":   {46: full(1), 47: full(1)},
		"a zero at the first, junk":  {27: append(make([]byte, 63), 1)},
		"the last one of some bytes": {27: append([]byte{3, 2, 1}, make([]byte, 61)...)},
	} {
		image := append(slices.Clone(clean), make([]byte, 64)...)
		for at, p := range spots {
			copy(image[64*at:], p)
		}
		p, err := openPair(t, name, image, 0, s, -1)
		wantErr(t, name, err, api.OK)
		wantNum(t, name+": Pending", p.d.Pending(), 0)
		wantText(t, name, tale(p.e), stateTale(stateOf(t, 0, s, puts(1), puts(2), puts(3)), 2, 3))
		wantBytes(t, name+": its region", p.d.Image()[64*24:64*48], clean[64*24:64*48])
		wantEngine(t, name, p.e, p.d, 0, s, stateOf(t, 0, s, puts(1), puts(2), puts(3)), 2, 3)
		done(t, p.e, puts(4))
		wantEngine(t, name, p.e, p.d, 0, s, stateOf(t, 0, s, puts(1), puts(2), puts(3), puts(4)), 2, 4)
		for fuse := 0; ; fuse++ {
			if _, err := openPair(t, fmt.Sprintf("%s, fuse %d", name, fuse), image, 0, s, fuse); err == api.OK {
				break
			}
		}
	}
}

// pieceSpots has one sector at many places.
func pieceSpots(from, to int, p []byte) map[int][]byte {
	all := map[int][]byte{}
	for i := from; i < to; i++ {
		all[i] = p
	}
	return all
}

// P18.1: an error of the disk that is met is the answer; what is told of arguments comes first.
func TestOpenWithoutPower(t *testing.T) {
	s := small(2, 2)
	for what, image := range map[string][]byte{
		"a new disk":  make([]byte, 64*176),
		"its own":     engineImage(s, 1, stateOf(t, 0, s).Bytes()),
		"another's":   engineImage(s, 1, stateOf(t, 1, s).Bytes()),
		"no log":      imageOf(empty(48), slot(64, 1, stateOf(t, 0, s).Bytes()), empty(64)),
		"wrong bytes": engineImage(s, 1, []byte("x")),
	} {
		d := loaded(t, image)
		d.Fuse(0)
		wantOpenRefused(t, what, d, 0, s, api.ErrDiskPower)
		wantOpenRefused(t, what+", server 2", d, 2, s, api.ErrArg)
	}
}

// P18.1: what only waits on the disk is read too, and is safe when Open has answered.
func TestOpenOverWhatWaits(t *testing.T) {
	s := small(1, 1)
	image := engineImage(s, 2, stateOf(t, 0, s, puts(1)).Bytes(), formOf(t, puts(2)))
	d := fresh(t, 176)
	for i := range 176 {
		d.Write(i, image[64*i:64*i+64])
	}
	e := opened(t, "all of it waits", d, 0, s)
	wantNum(t, "Pending", d.Pending(), 0)
	wantBytes(t, "Image", d.Image(), image)
	wantEngine(t, "all of it waits", e, d, 0, s, stateOf(t, 0, s, puts(1), puts(2)), 2, 2)
}

// P18.1: Open asks nothing of an engine that was there: two over one disk tell the same, and the state found is the disk's.
func TestOpenTwice(t *testing.T) {
	s := small(1, 1)
	d := fresh(t, 176)
	a := opened(t, "the one", d, 0, s)
	allDone(t, a, puts(1), puts(2))
	wantUntouched(t, "the other", d, func() {
		b := opened(t, "the other", d, 0, s)
		wantText(t, "the other", tale(b), tale(a))
	})
	var other *disk.Disk
	wantNotOpened(t, "no disk", other, 0, s, api.ErrNil)
}

// P18.1: the greatest first state, of 64 shards that are all at home, is far below the least Most; so is each other.
func TestOpenFirstStates(t *testing.T) {
	for servers := 1; servers <= 8; servers++ {
		for server := range servers {
			for _, shards := range []int{1, 2, 63, 64} {
				s := small(servers, shards)
				now, err := state.New(server, servers, shards)
				wantErr(t, "New", err, api.OK)
				p, err := openPair(t, fmt.Sprint(s), make([]byte, 64*176), server, s, -1)
				wantErr(t, "Open", err, api.OK)
				wantBytes(t, "Bytes", p.e.Bytes(), now.Bytes())
			}
		}
	}
}
