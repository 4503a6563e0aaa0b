package engine_test

import (
	"bytes"
	"fmt"
	"math/rand"
	"slices"
	"testing"

	"haulage/api"
	"haulage/disk"
	"haulage/engine"
	"haulage/state"
)

// waits is a write that is pending.
type waits struct {
	sector int
	data   []byte
}

// waiting are the pending writes of a disk, each of another sector, as an engine makes them between two syncs. Those that change nothing are not seen in a crash; nor is the order of writes to unlike sectors.
func waiting(d *disk.Disk) []waits {
	d.Fuse(-1)
	var all []waits
	image := d.Image()
	for i := range d.Sectors() {
		if p, _ := d.Read(i); !bytes.Equal(p, image[64*i:64*i+64]) {
			all = append(all, waits{i, p})
		}
	}
	return all
}

// crashes has each way in which the pending writes of a disk may be lost, kept and torn, and hands on each image that is left.
func crashes(t *testing.T, d *disk.Disk, cuts []int, each func(what string, image []byte)) {
	t.Helper()
	image, pending := d.Image(), waiting(d)
	for mask := range 1 << len(pending) {
		keep := make([]bool, len(pending))
		for i := range keep {
			keep[i] = mask>>i&1 == 1
		}
		for torn := -1; torn < len(pending); torn++ {
			if torn >= 0 && keep[torn] {
				continue // of the torn one keep is not asked
			}
			for _, cut := range cuts {
				other := loaded(t, image)
				for _, w := range pending {
					other.Write(w.sector, w.data)
				}
				other.Crash(keep, torn, cut)
				each(fmt.Sprintf("keep %v, torn %d, cut %d", keep, torn, cut), other.Image())
				if torn < 0 {
					break
				}
			}
		}
	}
}

// search is a way through all that the power's end may leave: of one engine's disk, whose calls are given by their number.
type search struct {
	t      *testing.T
	server int
	setup  api.Setup
	cuts   []int // of the crashes behind calls
	less   []int // of those behind Opens that are cut off
	deep   int   // how many Opens are cut off at most, one behind the other
	calls  []deed
	seen   map[string]int // how deep it went from there on
	opens  int            // how many Opens went well
}

// deed is a call of an engine: a record, or a Tidy, if it has no Kind.
type deed struct{ api.Record }

func (c deed) on(e *engine.Engine) api.Errno {
	if c.Kind == 0 {
		return e.Tidy()
	}
	_, err := e.Do(c.Record)
	return err
}

// behind is the form of a state behind a deed that is answered OK; as it was, of one that is refused.
func (c deed) behind(form []byte) []byte {
	now, _ := state.Read(form)
	now.Apply(c.Record)
	return now.Bytes()
}

// newSearch is one for server 0. Behind calls the crashes have these cuts, behind Opens the least and the greatest that tear.
func newSearch(t *testing.T, setup api.Setup, deep int, cuts []int, calls ...deed) *search {
	return &search{t: t, setup: setup, deep: deep, cuts: cuts, less: []int{1, 63}, calls: calls, seen: map[string]int{}}
}

// isNew remembers an image, of which this may be found, with this call to come and so many Opens that may still be cut off ahead of it.
func (s *search) isNew(image []byte, deep, call int, may ...[]byte) bool {
	key := fmt.Sprintf("%d %q %s", call, may, image)
	if s.seen[key] > deep {
		return false
	}
	s.seen[key] = deep + 1
	return true
}

// open has the power's end ahead of each write and sync of Open, each crash behind that, Open again, and so on, till nothing new comes or it is deep enough; what is found when Open goes well must be one of what may be. The calls go on from there.
func (s *search) open(what string, image []byte, deep, call int, may ...[]byte) {
	s.t.Helper()
	if !s.isNew(image, deep, call, may...) {
		return
	}
	cuts := s.less
	if call == 0 && deep == s.deep {
		cuts = s.cuts
	}
	for fuse := 0; ; fuse++ {
		d := loaded(s.t, image)
		d.Fuse(fuse)
		e, err := engine.Open(d, s.server, s.setup)
		what := fmt.Sprintf("%s; Open, fuse %d", what, fuse)
		if err != api.OK {
			wantErr(s.t, what, err, api.ErrDiskPower)
			if deep > 0 {
				crashes(s.t, d, cuts, func(how string, left []byte) { s.open(what+", "+how, left, deep-1, call, may...) })
			}
			continue
		}
		s.opens++
		found := e.Bytes()
		if !slices.ContainsFunc(may, func(p []byte) bool { return bytes.Equal(p, found) }) {
			s.t.Fatalf("%s: %x, may be %x", what, found, may)
		}
		wantNum(s.t, what+": Pending", d.Pending(), 0)
		other := loaded(s.t, d.Image())
		again := opened(s.t, what, other, s.server, s.setup)
		wantText(s.t, what+": opened again", tale(again), tale(e))
		s.call(what, d.Image(), call, found)
		return
	}
}

// call has the power's end ahead of each write and sync of a call, and each crash behind that; and the call that goes well.
func (s *search) call(what string, image []byte, call int, now []byte) {
	s.t.Helper()
	if call == len(s.calls) || !s.isNew(image, s.deep, call) {
		return
	}
	c := s.calls[call]
	for fuse := 0; ; fuse++ {
		d := loaded(s.t, image)
		e := opened(s.t, what, d, s.server, s.setup)
		d.Fuse(fuse)
		err := c.on(e)
		what := fmt.Sprintf("%s; call %d, fuse %d", what, call, fuse)
		if err != api.ErrEngDead {
			if err == api.OK {
				now = c.behind(now)
			}
			wantBytes(s.t, what+": Bytes", e.Bytes(), now)
			s.open(what, d.Image(), s.deep, call+1, now)
			return
		}
		crashes(s.t, d, s.cuts, func(how string, left []byte) {
			s.open(what+", "+how, left, s.deep, call+1, now, c.behind(now))
		})
	}
}

// framed is an image with a sector of nines behind it, which nobody may write.
func framed(image []byte) []byte { return append(slices.Clone(image), full(9)...) }

func (s *search) wantFrame() {
	s.t.Helper()
	for key := range s.seen {
		wantBytes(s.t, "the sector behind the slots", []byte(key[len(key)-64:]), full(9))
	}
}

// P18.11: the first Open over a new disk, cut off at each place, each crash with every cut, Open again and again; and a first write.
func TestEveryCrashOfTheFirstOpen(t *testing.T) {
	var cuts []int
	for cut := range 65 {
		cuts = append(cuts, cut)
	}
	for what, image := range map[string][]byte{
		"zeros":                make([]byte, 64*176),
		"something was there":  imageOf(append([][]byte{logHead(8), full(7)}, empty(22)...), empty(24), append([][]byte{full(3)}, empty(63)...), empty(64)),
		"a log of generation1": imageOf(region(24, 1, []byte{9}), empty(24), empty(128)),
	} {
		s := newSearch(t, small(1, 1), 3, cuts, deed{puts(1)})
		s.open(what, framed(image), s.deep, 0, stateOf(t, 0, s.setup).Bytes())
		s.wantFrame()
	}
}

// P18.11, P7: records of one and of some sectors, of all kinds, the power's end ahead of each write and sync, every crash, Opens that are cut off likewise, and on and on with the next record.
func TestEveryCrashOfDo(t *testing.T) {
	s := newSearch(t, small(2, 3), 1000, []int{1, 63},
		deed{puts(1)}, deed{write(0, 3, 2, put("a", text(100, 1)))}, deed{offer(0, 1)}, deed{plain(api.RecCancel, 0)}, deed{puts(3)}, deed{install(2, 1, 1, copyOf(12))}, deed{plain(api.RecOwn, 2)})
	s.open("records", framed(engineImage(s.setup, 1, stateOf(t, 0, s.setup).Bytes())), s.deep, 0, stateOf(t, 0, s.setup).Bytes())
	s.wantFrame()
	if s.opens < 150 {
		t.Fatalf("%d Opens alone", s.opens)
	}
}

// P18.11: the longest write there is, of six sectors, each of them kept, lost and torn; and one behind it.
func TestEveryCrashOfALongWrite(t *testing.T) {
	s := newSearch(t, small(1, 1), 1, []int{1, 63}, deed{write(0, 3, 200, put(text(64, 1), text(256, 1)))})
	for _, gen := range []int{1, 2} {
		s.open("a long write", framed(engineImage(s.setup, gen, stateOf(t, 0, s.setup).Bytes())), s.deep, 0, stateOf(t, 0, s.setup).Bytes())
	}
	s.wantFrame()
}

// oldAndNew is the image of an engine of a generation with a full log, over an older region and slot that a checkpoint must wipe first: few sectors, so that each choice can be had.
func oldAndNew(t *testing.T, s api.Setup, gen int, all ...api.Record) (image, now []byte) {
	t.Helper()
	saved := stateOf(t, 0, s)
	old := slot(s.Layout.Shot, gen-1, []byte(text(130, 1)))
	oldLog := region(s.Layout.Log, gen-1, []byte(text(150, 2)))
	log, shot := region(s.Layout.Log, gen, formsOf(t, all...)...), slot(s.Layout.Shot, gen, saved.Bytes())
	now = stateOf(t, 0, s, all...).Bytes()
	if gen%2 == 1 {
		return imageOf(log, oldLog, shot, old), now
	}
	return imageOf(oldLog, log, old, shot), now
}

// P18.11: a checkpoint by Tidy, and a write behind it.
func TestEveryCrashOfTidy(t *testing.T) {
	for _, gen := range []int{6, 7} {
		s := newSearch(t, small(2, 3), 1000, []int{0, 1, 12, 20, 63}, deed{}, deed{puts(13)})
		image, now := oldAndNew(t, s.setup, gen, writesUpTo(12)...)
		s.open(fmt.Sprint("generation ", gen), framed(image), s.deep, 0, now)
		s.wantFrame()
		if s.opens < 60 {
			t.Fatalf("%d Opens alone", s.opens)
		}
	}
}

// P18.11: a checkpoint that a record of the handshake makes, and what comes behind it.
func TestEveryCrashOfACheckpointFirst(t *testing.T) {
	for _, gen := range []int{6, 7} {
		s := newSearch(t, small(2, 3), 1000, []int{1, 20, 63}, deed{offer(0, 1)}, deed{plain(api.RecCommit, 0)})
		image, now := oldAndNew(t, s.setup, gen, writesUpTo(23)...)
		s.open(fmt.Sprint("generation ", gen), framed(image), s.deep, 0, now)
		s.wantFrame()
	}
}

// P18.11: a checkpoint to the last generation.
func TestEveryCrashAtTheEnd(t *testing.T) {
	s := newSearch(t, small(2, 3), 1000, []int{1, 63}, deed{}, deed{puts(13)}, deed{})
	image, now := oldAndNew(t, s.setup, maxTime-1, writesUpTo(12)...)
	s.open("the last generation", framed(image), s.deep, 0, now)
	s.wantFrame()
}

// P18.11: a longer row of calls, with few crashes each: all is lost, all is kept, all but the first, the last torn.
func TestCrashesOfManyCalls(t *testing.T) {
	setup := small(2, 3)
	var calls []deed
	for seq := 1; seq <= 30; seq++ {
		calls = append(calls, deed{puts(seq)}, deed{})
	}
	calls = append(calls, deed{offer(0, 1)}, deed{install(2, 1, 1, copyOf(60))}, deed{plain(api.RecCommit, 0)}, deed{install(2, 2, 1, copyOf(70))}, deed{plain(api.RecOwn, 2)}, deed{plain(api.RecRelease, 0)}, deed{})
	now, image := stateOf(t, 0, setup).Bytes(), framed(engineImage(setup, 1, stateOf(t, 0, setup).Bytes()))
	for i, c := range calls {
		next := c.behind(now)
		for fuse := 0; ; fuse++ {
			what := fmt.Sprintf("call %d, fuse %d", i, fuse)
			d := loaded(t, image)
			e := opened(t, what, d, 0, setup)
			d.Fuse(fuse)
			if err := c.on(e); err != api.ErrEngDead {
				wantErr(t, what, err, api.OK)
				wantBytes(t, what, e.Bytes(), next)
				image, now = d.Image(), next
				break
			}
			wantFewCrashes(t, what, d, setup, now, next)
		}
	}
}

// wantFewCrashes has some crashes of a disk, and asks what each leaves.
func wantFewCrashes(t *testing.T, what string, d *disk.Disk, s api.Setup, may ...[]byte) {
	t.Helper()
	image, pending := d.Image(), waiting(d)
	n := len(pending)
	all := slices.Repeat([]bool{true}, n)
	butFirst := append([]bool{false}, all...)
	for _, keep := range [][]bool{nil, all, butFirst} {
		for _, torn := range []int{-1, 0, n / 2, n - 1} {
			for _, cut := range []int{1, 40, 63} {
				other := loaded(t, image)
				for _, w := range pending {
					other.Write(w.sector, w.data)
				}
				other.Crash(keep, torn, cut)
				found := opened(t, what, other, 0, s).Bytes()
				if !slices.ContainsFunc(may, func(p []byte) bool { return bytes.Equal(p, found) }) {
					t.Fatalf("%s: keep %v, torn %d, cut %d: %x", what, keep, torn, cut, found)
				}
				wantBytes(t, what+": behind the slots", other.Image()[64*176:], full(9))
			}
		}
	}
}

// someCrash is a crash by dice.
func someCrash(r *rand.Rand, d *disk.Disk) ([]bool, int, int) {
	pending := d.Pending()
	keep := make([]bool, r.Intn(pending+3))
	often := r.Intn(4)
	for i := range keep {
		keep[i] = r.Intn(4) <= often
	}
	return keep, r.Intn(pending+2) - 1, r.Intn(68) - 2
}

// someDeed is a call by dice, whose record an engine with this state takes most of the time.
func someDeed(r *rand.Rand, now *state.State, mark int) deed {
	shard, server := r.Intn(now.Shards()), now.Server()
	peer := (server + 1 + r.Intn(max(now.Servers()-1, 1))) % now.Servers()
	l, _ := now.Ledger(shard)
	if k := r.Intn(20); k < 2 {
		return deed{}
	} else if k == 2 {
		return deed{api.Record{Kind: 1 + r.Intn(9), Shard: shard, Peer: r.Intn(3), Epoch: r.Intn(3)}}
	}
	switch l.Phase {
	case api.Owned:
		if r.Intn(6) > 0 {
			ops := []api.Op{put(text(1+r.Intn(4), r.Intn(9)), text(r.Intn(40), mark)), put("long", text(r.Intn(257), mark)), del(text(1, r.Intn(9))), swap("s", text(3, mark), r.Intn(9))}
			return deed{write(shard, r.Intn(16), mark, ops[r.Intn(len(ops))])}
		}
		return deed{offer(shard, peer)}
	case api.Offered:
		return deed{plain([]int{api.RecCancel, api.RecCommit}[r.Intn(2)], shard)}
	case api.Committed:
		return deed{plain(api.RecRelease, shard)}
	case api.Installed:
		if r.Intn(4) > 0 {
			return deed{plain([]int{api.RecOwn, api.RecForget}[r.Intn(2)], shard)}
		}
	}
	return deed{install(shard, l.Epoch+1+r.Intn(3), peer, copyOf(r.Intn(60)))}
}

// life is an engine that has any calls, powers' ends, crashes and Opens, one behind the other; each call, write by write, as it is told.
func life(t *testing.T, r *rand.Rand, errs map[api.Errno]int) {
	t.Helper()
	servers := 1 + r.Intn(4)
	s := setupOf(servers, 1+r.Intn(5), 24+r.Intn(8), 64+r.Intn(3))
	server := r.Intn(servers)
	image := append(make([]byte, 64*sectorsOf(s)), full(9)...)
	may := [][]byte{stateOf(t, server, s).Bytes()}
	mark := 0
	for round := range 12 {
		for cut := r.Intn(3); cut > 0; cut-- { // Opens that are cut off
			image = cutOpen(t, r, image, server, s, may)
		}
		what := fmt.Sprint("a life, round ", round)
		p, err := openPair(t, what, image, server, s, -1)
		wantErr(t, what, err, api.OK)
		found := p.e.Bytes()
		if !slices.ContainsFunc(may, func(q []byte) bool { return bytes.Equal(q, found) }) {
			t.Fatalf("%s: %x, may be %x", what, found, may)
		}
		fuse := r.Intn(120)
		p.d.Fuse(fuse)
		p.m.disk.Fuse(fuse)
		may = [][]byte{found}
		for !p.e.Dead() {
			mark++
			c := someDeed(r, p.m.now, mark)
			next := c.behind(may[0])
			err := pairDeed(t, what, p, c)
			errs[err]++
			switch err {
			case api.OK:
				may = [][]byte{next}
			case api.ErrEngDead:
				may = append(may, next)
				continue
			case api.ErrLogFull:
				errs[pairDeed(t, what, p, deed{})]++
			}
			if !p.e.Dead() {
				wantOpenedAgain(t, what, p)
			}
		}
		keep, torn, cut := someCrash(r, p.d)
		image = p.crash(t, what, keep, torn, cut)
		wantBytes(t, what+": behind the slots", image[64*sectorsOf(s):], full(9))
	}
}

// pairDeed has a call done by both, and asks for the limits of P18.10.
func pairDeed(t *testing.T, what string, p *pair, c deed) api.Errno {
	t.Helper()
	var err api.Errno
	if c.Kind == 0 {
		if err = p.tidy(t, what); err == api.OK {
			wantBool(t, what+": half of the log at most is used", p.e.Used() <= p.setup.Layout.Log/2, true)
		}
	} else {
		err = p.do(t, what, c.Record)
	}
	wantBool(t, what+": Most is enough", len(p.e.Bytes()) <= mostOf(p.setup), true)
	if err == api.ErrLogFull && c.Kind != api.RecWrite {
		wantBool(t, what+": no log holds it", len(formOf(t, c.Record)) > held*(p.setup.Layout.Log-1), true)
	}
	return err
}

// cutOpen is what an Open leaves that is cut off, or goes well, with a crash behind it.
func cutOpen(t *testing.T, r *rand.Rand, image []byte, server int, s api.Setup, may [][]byte) []byte {
	t.Helper()
	d := loaded(t, image)
	d.Fuse(r.Intn(12))
	e, err := engine.Open(d, server, s)
	if err == api.OK {
		found := e.Bytes()
		wantBool(t, "Open behind a crash", slices.ContainsFunc(may, func(q []byte) bool { return bytes.Equal(q, found) }), true)
	} else {
		wantErr(t, "an Open that is cut off", err, api.ErrDiskPower)
	}
	keep, torn, cut := someCrash(r, d)
	d.Crash(keep, torn, cut)
	return d.Image()
}

// wantOpenedAgain asks what P18.12 says, of a disk with the same image, to which nothing is written then.
func wantOpenedAgain(t *testing.T, what string, p *pair) {
	t.Helper()
	other := loaded(t, p.d.Image())
	wantUntouched(t, what+": opened again", other, func() {
		e := opened(t, what+": opened again", other, p.server, p.setup)
		wantBytes(t, what+": opened again: Bytes", e.Bytes(), p.e.Bytes())
		wantNum(t, what+": opened again: Gen", e.Gen(), p.e.Gen())
		wantNum(t, what+": opened again: Used", e.Used(), p.e.Used())
	})
}

// P18.2 to P18.12, P7: many lives.
func TestLives(t *testing.T) {
	errs := map[api.Errno]int{}
	r := rand.New(rand.NewSource(1811))
	for range 30 {
		life(t, r, errs)
	}
	for _, err := range []api.Errno{api.OK, api.ErrEngDead, api.ErrLogFull, api.ErrDiskFull, api.ErrRecForm, api.ErrLedgerPhase, api.ErrLedgerPeer} {
		wantBool(t, fmt.Sprint("error ", err, " was met"), errs[err] > 0, true)
	}
}
