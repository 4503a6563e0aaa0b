package server_test

import (
	"fmt"
	"math/rand"
	"slices"
	"testing"

	"haulage/api"
	"haulage/disk"
	"haulage/mail"
	"haulage/server"
	"haulage/table"
)

// place is a client at a shard.
type place struct{ shard, client int }

// stay is a write, and the reply to it, which is to stay.
type stay struct{ request, reply api.Mail }

// script is one as "What holds of them together" has it: requests of any kind, messages of the handshake that one of the servers has sent, and servers that are opened anew. Each server is in lockstep with a telling.
type script struct {
	t       *testing.T
	r       *rand.Rand
	s       api.Setup
	pairs   []*pair
	keys    [][]string              // of each shard
	said    []api.Letter            // of the handshake, whatever was ever sent
	asked   []api.Mail              // requests, whatever was ever heard
	waiting map[int]api.Mail        // of each steady client the request that it says until it is answered
	seqs    map[int]int             // of each steady client
	tables  [][]*table.Table        // of each shard behind each of its deeds, the first one being new
	done    []map[[2]int]api.Answer // of each shard the answers that its table gave, by client and seq
	stays   map[place]stay
	long    bool // are values long, so that there comes to be no room?
	tally   *tally
}

// tally is what came about in scripts.
type tally struct {
	verdicts                    map[api.Errno]int // but OK
	nothing                     int               // requests that were not answered
	reads, again, deeds         int               // OK to reads, to what was done, and to new writes
	readsOfSeats, elsewhere     int               // of what was done: reads under its seq, and what was done at another server
	became                      [6]int            // by phases
	opened, stayed              int               // servers that were opened anew, and replies that stayed
	powerless, doneWithoutPower int               // calls without power, and how often one did a write all the same
}

const (
	steady  = 3 // clients that keep to the rules: the first ones
	wild    = 3 // clients that do not: the last ones
	crashes = 4 // at each place at which the power goes within a call
)

func newScript(t *testing.T, r *rand.Rand, s api.Setup, all *tally) *script {
	t.Helper()
	c := &script{t: t, r: r, s: s, waiting: map[int]api.Mail{}, seqs: map[int]int{}, stays: map[place]stay{}, tally: all}
	for number := range s.Servers {
		c.pairs = append(c.pairs, pairOfNew(t, s, number))
	}
	for shard := range s.Shards {
		c.tables = append(c.tables, []*table.Table{table.New()})
		c.done = append(c.done, map[[2]int]api.Answer{})
		var keys []string
		for number := range 4 {
			keys = append(keys, keyOf(shard, s.Shards, number))
		}
		c.keys = append(c.keys, keys)
	}
	return c
}

// someOp is one of a shard.
func (c *script) someOp(shard int) api.Op {
	key, value := c.keys[shard][c.r.Intn(4)], text(c.r.Intn(9), c.r.Intn(99))
	if c.long {
		value = text(200+c.r.Intn(57), c.r.Intn(99))
	}
	switch k := c.r.Intn(10); {
	case k < 2:
		return get(key)
	case k == 2:
		return seek(key[:c.r.Intn(len(key)+1)])
	case k == 3:
		return remove(key)
	case k < 6:
		row, _ := c.now(shard).Do(get(key))
		return swap(key, value, row.Rev*c.r.Intn(2))
	}
	return put(key, value)
}

// now is the table of a shard as the deeds until now have made it.
func (c *script) now(shard int) *table.Table {
	return c.tables[shard][len(c.tables[shard])-1]
}

// someRequest is one that a server is going to hear, more likely of a shard that it owns.
func (c *script) someRequest(to int) api.Mail {
	m := c.anyRequest(to)
	for range 3 {
		if l, _ := c.pairs[to].o.Ledger(m.Shard); l.Phase == api.Owned {
			break
		}
		m = c.anyRequest(to)
	}
	return m
}

// anyRequest is new, said again by a client that waits, late, or out of all order.
func (c *script) anyRequest(to int) api.Mail {
	shard := c.r.Intn(c.s.Shards)
	switch k := c.r.Intn(10); {
	case k == 0 && c.r.Intn(4) == 0:
		return ask(to, maxClients-1-c.r.Intn(wild), 1+c.r.Intn(8), c.r.Intn(min(c.s.Shards+1, maxShards)), c.someOp(shard))
	case k < 2:
		return ask(to, maxClients-1-c.r.Intn(wild), 1+c.r.Intn(8), shard, c.someOp(shard))
	case k < 4 && len(c.asked) > 0:
		m := c.asked[c.r.Intn(len(c.asked))]
		m.To = to
		return m
	}
	client := c.r.Intn(steady)
	m, isWaiting := c.waiting[client]
	if !isWaiting {
		c.seqs[client]++
		m = ask(to, client, c.seqs[client], shard, c.someOp(shard))
		c.waiting[client] = m
	}
	m.To = to
	return m
}

// request has a server hear a request, and asks for what is to hold of its reply and of its deed: P22.9, P22.11, P22.12.
func (c *script) request(m api.Mail) {
	c.t.Helper()
	p, what := c.pairs[m.To], "Hear of "+short(m)
	form, image, was := p.o.Bytes(), p.d.Image(), countsOf(p.d, false)
	c.asked = append(c.asked, m)
	letters, err := p.hear(m)
	if err == errEngDead {
		return
	}
	wantErr(c.t, what, err, api.OK)
	reply := c.replyIn(what, letters, m)
	if len(letters) > 0 && reply.Verdict == api.OK {
		c.wantAsTable(what, m, reply)
		if c.waiting[m.Client].Seq == m.Seq && m.Client < steady {
			delete(c.waiting, m.Client)
		}
		return
	}
	wantText(c.t, what+": Deeds", toldDeeds(p.deeds()), toldDeeds(nil))
	wantBytes(c.t, what+": Bytes", p.o.Bytes(), form)
	wantBytes(c.t, what+": the disk", p.d.Image(), image)
	if now := countsOf(p.d, p.o.Dead()); now != was {
		c.t.Fatalf("%s: the disk: %v, want %v", what, now, was)
	}
	if len(letters) == 0 {
		c.tally.nothing++
	} else {
		c.tally.verdicts[reply.Verdict]++
	}
}

// replyIn is the one message that is sent because of a request, if there is one.
func (c *script) replyIn(what string, letters []api.Letter, m api.Mail) api.Mail {
	c.t.Helper()
	if len(letters) == 0 {
		return api.Mail{}
	}
	wantNum(c.t, what+": letters", len(letters), 1)
	reply, err := mail.Decode(letters[0].Data)
	wantErr(c.t, what+": Decode", err, api.OK)
	wanted := answered(m, reply.Answer)
	wanted.Verdict, wanted.Hint = reply.Verdict, reply.Hint
	if !isSame(letters[0], lettersOf(c.t, wanted)[0]) {
		wantText(c.t, what, told(letters), told(lettersOf(c.t, wanted)))
	}
	return reply
}

func isWrite(op api.Op) bool { return op.Kind >= 2 && op.Kind <= 4 }

// wantAsTable asks that a reply with OK is as the deeds make it; what was done by it is a deed more.
func (c *script) wantAsTable(what string, m, reply api.Mail) {
	c.t.Helper()
	deeds := c.pairs[m.To].deeds()
	before := c.stays[place{m.Shard, m.Client}]
	answer, wasDone := c.done[m.Shard][[2]int{m.Client, m.Seq}]
	switch {
	case len(deeds) > 0:
		answer = c.wantNewDeed(what, m, deeds)
	case wasDone:
		c.tally.again++
		if reply.From != before.reply.From {
			c.tally.elsewhere++
		}
		if !isWrite(m.Op) {
			c.tally.readsOfSeats++
		}
	case isWrite(m.Op):
		c.t.Fatalf("%s: a write is answered with OK, but was not done", what)
	default:
		c.tally.reads++
		at := reply.Answer.At
		wantNum(c.t, what+": At", at, len(c.tables[m.Shard])-1)
		answer, _ = c.tables[m.Shard][at].Do(m.Op)
	}
	wantText(c.t, what+": the answer", fmt.Sprint(reply.Answer), fmt.Sprint(answer))
	if isWrite(m.Op) {
		c.stays[place{m.Shard, m.Client}] = stay{m, reply}
	}
}

// wantNewDeed asks for just the deed of a new write: of the next revision of its shard, and the only one with its client and seq. It answers what the shard's table does.
func (c *script) wantNewDeed(what string, m api.Mail, deeds []api.Deed) api.Answer {
	c.t.Helper()
	rev := len(c.tables[m.Shard])
	wantText(c.t, what+": Deeds", toldDeeds(deeds), toldDeeds([]api.Deed{{Shard: m.Shard, Rev: rev, Client: m.Client, Seq: m.Seq}}))
	if _, wasDone := c.done[m.Shard][[2]int{m.Client, m.Seq}]; wasDone {
		c.t.Fatalf("%s: it was done already", what)
	}
	next := c.now(m.Shard).Copy()
	answer, err := next.Do(m.Op)
	wantErr(c.t, what+": Do of the table", err, api.OK)
	c.tables[m.Shard] = append(c.tables[m.Shard], next)
	c.done[m.Shard][[2]int{m.Client, m.Seq}] = answer
	c.tally.deeds++
	return answer
}

// sends keeps what was sent, and asks that there is no deed.
func (c *script) sends(p *pair, letters []api.Letter) {
	c.t.Helper()
	wantText(c.t, "Deeds of no request", toldDeeds(p.deeds()), toldDeeds(nil))
	for _, l := range letters {
		if l.From != p.number || l.To < 0 || l.To >= c.s.Servers || l.Number != 0 {
			c.t.Fatalf("a letter of server %d: number %d, from %d, to %d", p.number, l.Number, l.From, l.To)
		}
	}
	c.said = append(c.said, letters...)
}

// attempt is one thing that a server may be asked for.
type attempt struct {
	request api.Mail // if it is one, kind and all
	on      func(o *server.Server) api.Errno
	both    func(p *pair)
}

// someAttempt is one of a server.
func (c *script) someAttempt(p *pair) attempt {
	shard, to := c.r.Intn(c.s.Shards), c.r.Intn(c.s.Servers)
	switch k := c.r.Intn(40); {
	case k == 0:
		return attempt{
			on:   func(o *server.Server) api.Errno { _, err := o.Move(shard, to); return err },
			both: func(p *pair) { letters, _ := p.move(shard, to); c.sends(p, letters) },
		}
	case k == 1 && c.r.Intn(2) == 0:
		return attempt{
			on:   func(o *server.Server) api.Errno { return o.Cancel(shard) },
			both: func(p *pair) { p.cancel(shard); c.sends(p, nil) },
		}
	case k < 5:
		return attempt{
			on:   func(o *server.Server) api.Errno { _, err := o.Tick(); return err },
			both: func(p *pair) { letters, _ := p.tick(); c.sends(p, letters) },
		}
	case k < 16:
		if l, ok := c.someSaid(p.number); ok {
			return attempt{
				on:   func(o *server.Server) api.Errno { _, err := o.Hear(l.Data); return err },
				both: func(p *pair) { letters, _ := p.hearData("Hear of a letter", l.Data); c.sends(p, letters) },
			}
		}
	}
	m := c.someRequest(p.number)
	return attempt{
		request: m,
		on:      func(o *server.Server) api.Errno { _, err := o.Hear(form(c.t, m)); return err },
		both:    func(*pair) { c.request(m) },
	}
}

// someSaid is a letter to a server, more likely one of the last.
func (c *script) someSaid(to int) (api.Letter, bool) {
	var all []api.Letter
	for _, l := range c.said {
		if l.To == to {
			all = append(all, l)
		}
	}
	if len(all) == 0 {
		return api.Letter{}, false
	}
	if c.r.Intn(4) > 0 {
		return all[len(all)-1-c.r.Intn(min(len(all), 3))], true
	}
	return all[c.r.Intn(len(all))], true
}

// someCrash is one of any kind.
func (c *script) someCrash(d *disk.Disk) (keep []bool, torn, cut int) {
	keep = make([]bool, c.r.Intn(d.Pending()+2))
	for i := range keep {
		keep[i] = c.r.Intn(3) > 0
	}
	return keep, c.r.Intn(d.Pending()+2) - 1, c.r.Intn(66) - 1
}

// openAnew opens a server over its disk, behind a loss of power or not.
func (c *script) openAnew(p *pair) {
	c.t.Helper()
	if c.r.Intn(2) == 0 {
		p.crash(c.someCrash(p.d))
	}
	wantErr(c.t, "Open anew", p.open(), api.OK)
	wantText(c.t, "Deeds of a new server", toldDeeds(p.deeds()), toldDeeds(nil))
	c.tally.opened++
}

// wantStays asks that a server over a disk answers each write that stays as it was answered, if it owns the shard. One request may have been under way when the power went: by that its client may have written anew.
func (c *script) wantStays(what string, number int, d *disk.Disk, under api.Mail) {
	c.t.Helper()
	o := opened(c.t, what, d, number, c.s)
	writes, syncs := d.Counts()
	for at, kept := range c.stays {
		if l, _ := o.Ledger(at.shard); l.Phase != api.Owned {
			continue
		}
		seat, hasSeat := shardOf(c.t, o.Export(at.shard)).Seat(at.client)
		if hasSeat && under.Client == at.client && under.Shard == at.shard && under.Seq > kept.request.Seq && seat.Seq == under.Seq {
			c.tally.doneWithoutPower++
			continue
		}
		m, reply := kept.request, kept.reply
		m.To, reply.From = number, number
		letters, err := o.Hear(form(c.t, m))
		wantSent(c.t, what+": Hear again of "+short(m), letters, err, reply)
		c.tally.stayed++
	}
	wantDeeds(c.t, what, o)
	nowWrites, nowSyncs := d.Counts()
	wantNum(c.t, what+": writes and syncs", nowWrites+nowSyncs, writes+syncs)
}

// wantAllStay asks it of all disks, as the loss of all that is not safe would leave them.
func (c *script) wantAllStay(what string) {
	c.t.Helper()
	for number, p := range c.pairs {
		c.wantStays(what, number, loaded(c.t, p.d.Image()), api.Mail{})
	}
}

// withoutPower has the power go at each place of a call, over copies of a server's disk; some crashes behind that.
func (c *script) withoutPower(p *pair, a attempt) {
	c.t.Helper()
	image := p.d.Image()
	for try := 0; ; try++ {
		fuse := try / crashes
		d := loaded(c.t, image)
		o := opened(c.t, "a copy of its disk", d, p.number, c.s)
		d.Fuse(fuse)
		err := a.on(o)
		d.Crash(c.someCrash(d))
		c.wantStays(fmt.Sprint("the power goes within a call, fuse ", fuse), p.number, d, a.request)
		if err != errEngDead {
			return
		}
		c.tally.powerless++
	}
}

// someServer is one, more likely one that owns a shard.
func (c *script) someServer() *pair {
	var p *pair
	for range 3 {
		p = c.pairs[c.r.Intn(c.s.Servers)]
		if slices.ContainsFunc(p.m.ledgers(), func(l api.Ledger) bool { return l.Phase == api.Owned }) {
			break
		}
	}
	return p
}

// act is one thing that may happen.
func (c *script) act() {
	c.t.Helper()
	p := c.someServer()
	was := p.m.ledgers()
	switch k := c.r.Intn(150); {
	case k < 2:
		c.openAnew(p)
	case k == 2:
		c.wantAllStay("between calls")
	default:
		a := c.someAttempt(p)
		if k < 6 {
			c.withoutPower(p, a)
		}
		a.both(p)
	}
	for shard, l := range p.m.ledgers() {
		if l != was[shard] {
			c.tally.became[l.Phase]++
		}
	}
}

// endWithoutPower goes on with one server until its power goes within a call; what stays then stays on its disk.
func (c *script) endWithoutPower() {
	c.t.Helper()
	p := c.someServer()
	p.fuse(c.r.Intn(8))
	for range 200 {
		a := c.someAttempt(p)
		a.both(p)
		if !p.o.Dead() {
			continue
		}
		c.tally.powerless++
		wantText(c.t, "Deeds of a call without power", toldDeeds(p.deeds()), toldDeeds(nil))
		p.crash(c.someCrash(p.d))
		c.wantStays("the power has gone within a call", p.number, p.d, a.request)
		return
	}
}

// someSetup is one of few servers and few shards; at times of many.
func someSetup(r *rand.Rand, number int) api.Setup {
	if number%20 == 19 {
		return setupOf(8, 64)
	}
	return setupOf(1+number%4, 1+r.Intn(3))
}

// P22.9 to P22.12: scripts over 1 to 4 servers, and over 8, of requests of several clients, doubles, losses and late messages of the handshake, servers opened anew between calls, and the power going within a call; in lockstep with the telling, each server.
func TestScripts(t *testing.T) {
	r := rand.New(rand.NewSource(229))
	all := &tally{verdicts: map[api.Errno]int{}}
	for number := range 120 {
		c := newScript(t, r, someSetup(r, number), all)
		c.long = number%3 == 0
		for range r.Intn(500) {
			c.act()
		}
		c.wantAllStay("at last")
		c.endWithoutPower()
	}
	all.wantEnough(t)
}

// wantEnough asks that scripts have come to whatever they are about.
func (all *tally) wantEnough(t *testing.T) {
	t.Helper()
	for verdict, least := range map[api.Errno]int{errLogFull: 400, errDiskFull: 40, errWrongOwner: 3000, errFrozen: 1000} {
		if all.verdicts[verdict] < least {
			t.Errorf("the verdict %d: %d times", verdict, all.verdicts[verdict])
		}
	}
	if len(all.verdicts) != 4 {
		t.Errorf("other verdicts: %v", all.verdicts)
	}
	for phase := api.Owned; phase <= api.Released; phase++ {
		if all.became[phase] < 50 {
			t.Errorf("phase %d came about %d times", phase, all.became[phase])
		}
	}
	if all.nothing < 2000 || all.reads < 2000 || all.again < 800 || all.deeds < 4000 {
		t.Errorf("%d requests were not answered; answered were %d reads, %d writes that were done, %d new ones", all.nothing, all.reads, all.again, all.deeds)
	}
	if all.readsOfSeats < 80 || all.elsewhere < 30 {
		t.Errorf("%d reads were answered as writes; %d writes had been done at another server", all.readsOfSeats, all.elsewhere)
	}
	if all.opened < 250 || all.stayed < 15000 || all.powerless < 2000 || all.doneWithoutPower < 120 {
		t.Errorf("%d servers were opened anew; %d replies stayed; %d calls met the end of the power, %d of them did a write", all.opened, all.stayed, all.powerless, all.doneWithoutPower)
	}
}
