package haul_test

import (
	"fmt"
	"math/rand"
	"slices"
	"testing"

	"haulage/api"
	"haulage/disk"
	"haulage/engine"
	"haulage/haul"
	"haulage/ledger"
	"haulage/shard"
)

// node is a server of a script.
type node struct {
	server int
	d      *disk.Disk
	h      *haul.Haul     // nil, while the server is down
	e      *engine.Engine // of a server that is down: over a copy of its disk's image
}

func (n *node) isUp() bool { return n.h != nil }

// script is one as "What holds of it" has it: all that was ever said may be heard, at any time.
type script struct {
	t       *testing.T
	r       *rand.Rand
	s       api.Setup
	nodes   []*node
	said    []api.Mail
	wrote   []*shard.Shard // of each shard what the writes that were answered with OK have made
	perhaps []*shard.Shard // and what a write more makes, whose Do met the end of the power
	seq     int
	long    bool // are values long, so that copies become too great for a log?
	tally   *tally
}

// tally is what came about in scripts.
type tally struct {
	heard, late, replied, became [9]int // by their kinds, and by their phases
	down, inCalls                int    // how often a server went down, and how often that was in a call
}

func newScript(t *testing.T, r *rand.Rand, s api.Setup, all *tally) *script {
	t.Helper()
	c := &script{t: t, r: r, s: s, perhaps: make([]*shard.Shard, s.Shards), tally: all}
	for range s.Shards {
		c.wrote = append(c.wrote, shard.New())
	}
	for server := range s.Servers {
		n := &node{server: server, d: loaded(t, make([]byte, 64*2*(s.Layout.Log+s.Layout.Shot)))}
		n.e = opened(t, "a new disk", n.d, server, s)
		n.h = over(t, n.e)
		c.nodes = append(c.nodes, n)
	}
	c.check("at first")
	return c
}

// check asks for what is to hold at any moment: P21.7, P21.8.
func (c *script) check(what string) {
	c.t.Helper()
	for i := range c.s.Shards {
		var row []api.Ledger
		for _, n := range c.nodes {
			l, err := n.e.Ledger(i)
			wantErr(c.t, what+": Ledger", err, api.OK)
			row = append(row, l)
		}
		holder := ledger.Holder(row)
		if !ledger.Sound(row) || holder != authorOf(row) {
			c.t.Fatalf("%s: shard %d: %v is not sound", what, i, row)
		}
		copied := c.nodes[holder].e.Export(i)
		if maybe := c.perhaps[i]; maybe != nil && slices.Equal(copied, maybe.Export()) {
			continue
		}
		wantBytes(c.t, fmt.Sprintf("%s: the copy of shard %d", what, i), copied, c.wrote[i].Export())
	}
}

// authorOf is who has the copy that counts, by P1's words; -1, if they do not hold.
func authorOf(row []api.Ledger) int {
	greatest, serving := -1, 0
	for _, l := range row {
		if l.Phase == api.Owned || l.Phase == api.Offered || l.Phase == api.Committed {
			greatest = max(greatest, l.Epoch)
		}
		if l.Phase == api.Owned {
			serving++
		}
	}
	var have []int
	for i, l := range row {
		switch {
		case l.Phase == api.Committed && l.Epoch < greatest && row[l.Peer].Epoch < l.Epoch:
			return -1
		case l.Epoch == greatest && (l.Phase == api.Owned || l.Phase == api.Offered || l.Phase == api.Committed):
			have = append(have, i)
		}
	}
	if len(have) == 2 && row[have[0]].Phase == api.Committed {
		slices.Reverse(have)
	}
	if len(have) == 2 && (row[have[0]].Phase != api.Owned || row[have[1]].Phase != api.Committed || row[have[1]].Peer != have[0]) {
		return -1
	}
	if len(have) < 1 || len(have) > 2 || serving > 1 || serving == 1 && row[have[0]].Phase != api.Owned {
		return -1
	}
	return have[0]
}

// goDown has a server be down: what its disk says is what stands there safely.
func (c *script) goDown(n *node) {
	c.t.Helper()
	n.h = nil
	n.e = opened(c.t, "a copy of its disk", loaded(c.t, n.d.Image()), n.server, c.s)
	c.tally.down++
}

// crash is one of any kind.
func (c *script) crash(n *node) {
	keep := make([]bool, c.r.Intn(n.d.Pending()+2))
	for i := range keep {
		keep[i] = c.r.Intn(3) > 0
	}
	n.d.Crash(keep, c.r.Intn(n.d.Pending()+2)-1, c.r.Intn(66)-1)
}

// restart opens a server again; the power may go within that, too.
func (c *script) restart(n *node) {
	c.t.Helper()
	c.crash(n)
	if c.r.Intn(4) == 0 {
		n.d.Fuse(c.r.Intn(3))
	}
	e, err := engine.Open(n.d, n.server, c.s)
	if err != api.OK {
		wantErr(c.t, "Open without power", err, api.ErrDiskPower)
		c.goDown(n)
		return
	}
	n.e, n.h = e, over(c.t, e)
	for i, maybe := range c.perhaps {
		l, _ := e.Ledger(i)
		if maybe == nil || l.Phase != api.Owned {
			continue // the write was another server's
		}
		if c.perhaps[i] = nil; slices.Equal(e.Export(i), maybe.Export()) {
			c.wrote[i] = maybe
		}
	}
}

// met has a server be down, if a call met the end of its power. What was said by such a call is not said.
func (c *script) met(n *node, said []api.Mail, err api.Errno) api.Errno {
	c.t.Helper()
	if err == errEngDead {
		wantText(c.t, "said without power", told(said), told(nil))
		c.tally.inCalls++
		c.goDown(n)
	}
	c.said = append(c.said, said...)
	return err
}

// hear has a server hear a message, and answers what it said because of it. What is late changes nothing on the disk (P21.10).
func (c *script) hear(m api.Mail) []api.Mail {
	c.t.Helper()
	n := c.nodes[m.To]
	if !n.isUp() {
		return nil
	}
	was, err := n.e.Ledger(m.Shard)
	wantErr(c.t, "Ledger", err, api.OK)
	image := n.d.Image()
	writes, syncs := n.d.Counts()
	said, err := n.h.Hear(m)
	if m.Epoch < was.Epoch {
		now, nowSyncs := n.d.Counts()
		wantErr(c.t, "what is late", err, api.OK)
		wantBytes(c.t, "the disk behind what is late", n.d.Image(), image)
		wantNum(c.t, "writes and syncs behind what is late", now+nowSyncs, writes+syncs)
		c.tally.late[m.Kind]++
	}
	if c.met(n, said, err) != errEngDead {
		wantErr(c.t, "Hear of "+short(m), err, api.OK)
		c.tally.heard[m.Kind]++
		if l, _ := n.e.Ledger(m.Shard); l != was {
			c.tally.became[l.Phase]++
		}
		for _, reply := range said {
			c.tally.replied[reply.Kind]++
		}
	}
	return said
}

func (c *script) write(n *node, i int) {
	c.t.Helper()
	c.seq++
	size := c.r.Intn(8)
	if c.long {
		size = 200 + c.r.Intn(56)
	}
	op := put(fmt.Sprint("key", c.r.Intn(9)), text(size, c.seq))
	l, _ := n.e.Ledger(i)
	a, err := n.e.Do(write(i, n.server, c.seq, op))
	next := c.wrote[i].Copy()
	b, _, _ := next.Do(n.server, c.seq, op)
	switch {
	case c.met(n, nil, err) == errEngDead:
		if l.Phase == api.Owned {
			c.perhaps[i] = next
		}
	case err == api.OK:
		wantText(c.t, "a write's answer", fmt.Sprint(a), fmt.Sprint(b))
		c.wrote[i] = next
	case l.Phase == api.Owned && err != errLogFull && err != errDiskFull:
		c.t.Fatalf("a write to its owner: error %d", err)
	}
}

// fill has all servers do some writes of the shards that are theirs.
func (c *script) fill() {
	c.t.Helper()
	for range 10 {
		for _, n := range c.nodes {
			for i := range c.s.Shards {
				c.write(n, i)
			}
			c.met(n, nil, n.e.Tidy())
		}
	}
}

// someSaid is a message that was said, more likely one of the last.
func (c *script) someSaid() api.Mail {
	if n := len(c.said); c.r.Intn(3) > 0 {
		return c.said[n-1-c.r.Intn(min(n, 6))]
	}
	return c.said[c.r.Intn(len(c.said))]
}

// act is one thing that may happen.
func (c *script) act() {
	c.t.Helper()
	n, i := c.nodes[c.r.Intn(c.s.Servers)], c.r.Intn(c.s.Shards)
	if !n.isUp() {
		if c.r.Intn(3) == 0 {
			c.restart(n)
		}
		return
	}
	switch k := c.r.Intn(24); {
	case k == 0:
		said, err := n.h.Move(i, c.r.Intn(c.s.Servers))
		c.met(n, said, err)
	case k == 1:
		c.met(n, nil, n.h.Cancel(i))
	case k < 6:
		said, err := n.h.Tick()
		c.met(n, said, err)
	case k < 9:
		c.write(n, i)
	case k == 9:
		n.d.Fuse(c.r.Intn(10))
	case k == 10 && c.r.Intn(4) == 0:
		c.goDown(n)
	case k == 11:
		c.met(n, nil, n.e.Tidy())
	case len(c.said) > 0:
		c.hear(c.someSaid())
	}
}

// hearAll hears what is under way, and all that is said because of it; whether MailFull was among it.
func (c *script) hearAll(under []api.Mail, next func(n int) int) bool {
	c.t.Helper()
	full := false
	for count := 0; len(under) > 0; count++ {
		if count > 50000 {
			c.t.Fatalf("it does not end: %d messages under way", len(under))
		}
		k := next(len(under))
		m := under[k]
		under = slices.Delete(under, k, k+1)
		full = full || m.Kind == api.MailFull
		under = append(under, c.hear(m)...)
		c.check("in a round")
	}
	return full
}

// settle has all servers up, and rounds behind that; what was said ahead of them is heard in the first one, or never. Whether it ends is asked, if nobody was full (P21.9).
func (c *script) settle() (full bool) {
	c.t.Helper()
	for _, n := range c.nodes {
		for n.d.Fuse(-1); !n.isUp(); {
			c.restart(n)
		}
		n.d.Fuse(-1)
	}
	orders := []func(n int) int{func(n int) int { return 0 }, func(n int) int { return n - 1 }, c.r.Intn}
	next := orders[c.r.Intn(len(orders))]
	var under []api.Mail
	if c.r.Intn(2) == 0 {
		under = slices.Clone(c.said)
	}
	if full = c.rounds(under, next); !full {
		c.wantEnded()
	}
	return full
}

// rounds are 2 * MaxWait of them; in the first one other messages are under way, too. It answers whether anybody was full.
func (c *script) rounds(under []api.Mail, next func(n int) int) (full bool) {
	c.t.Helper()
	for range 16 {
		for _, n := range c.nodes {
			said, err := n.h.Tick()
			wantErr(c.t, "a round's Tick", err, api.OK)
			under = append(under, said...)
		}
		full = c.hearAll(under, next) || full
		under = nil
	}
	return full
}

// wantEnded asks that each shard is Owned by one server, and that all others have it Absent or Released.
func (c *script) wantEnded() {
	c.t.Helper()
	for i := range c.s.Shards {
		owners := 0
		for _, n := range c.nodes {
			switch l, _ := n.e.Ledger(i); l.Phase {
			case api.Owned:
				owners++
			case api.Absent, api.Released:
			default:
				c.t.Fatalf("behind the rounds: shard %d is %v at server %d", i, l, n.server)
			}
		}
		wantNum(c.t, "owners", owners, 1)
	}
}

// P21.7 to P21.10: scripts of 1 to 8 servers, with losses, doubles, late messages and losses of power at any write; rounds behind them.
func TestScripts(t *testing.T) {
	r := rand.New(rand.NewSource(217))
	all := &tally{}
	fulls := 0
	for number := range 600 {
		s := setupOf(1+number%8, 1+r.Intn(3))
		c := newScript(t, r, s, all)
		if c.long = number%4 == 0; c.long {
			c.fill()
		}
		for range r.Intn(400) {
			c.act()
			c.check("behind an act")
		}
		if c.settle() {
			fulls++
		}
	}
	for kind := api.MailOffer; kind <= api.MailFull; kind++ {
		if all.heard[kind] < 400 || all.late[kind] < 100 || kind > api.MailOffer && all.replied[kind] < 150 {
			t.Errorf("kind %d: heard %d times, late %d times, said back %d times", kind, all.heard[kind], all.late[kind], all.replied[kind])
		}
	}
	for _, phase := range []int{api.Owned, api.Committed, api.Installed, api.Released} {
		if all.became[phase] < 200 {
			t.Errorf("phase %d came about %d times", phase, all.became[phase])
		}
	}
	if all.down < 1000 || all.inCalls < 500 || fulls < 15 {
		t.Errorf("%d servers went down, %d of them in a call; %d scripts in which one was full", all.down, all.inCalls, fulls)
	}
}

// P21.7 to P21.9: as many shards and servers as there may be.
func TestScriptOfManyShards(t *testing.T) {
	r := rand.New(rand.NewSource(2164))
	for range 3 {
		c := newScript(t, r, setupOf(8, 64), &tally{})
		for act := range 2500 {
			if c.act(); act%10 == 0 {
				c.check("behind an act")
			}
		}
		c.settle()
	}
}
